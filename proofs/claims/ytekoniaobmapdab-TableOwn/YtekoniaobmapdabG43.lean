/- The texts UOpM, UOpen, YSeek, UGet, TGMath, in this order. -/
import Derived.Test.YtekoniaobmapdabG41
import Derived.Test.YtekoniaobmapdabG42
import Derived.Test.YtekoniaobmapdabG39
import Derived.Test.YtekoniaobmapdabG17
import Derived.Test.YtekoniaobmapdabG32
import Derived.Test.YtekoniaobmapdabG14

/- What the program's Open answers is the page's (plain lists). -/
namespace Go.Proofs.Ytekoniaobmapdab
open Go.RowKit SumPlain
set_option linter.unusedVariables false
set_option linter.unusedSimpArgs false

theorem rowP_idx {c : List En} (hc : chkB c = 0) (r : List Int) : rowP (idxE c ++ r) = some ((encB c).1.length, (idxE c).length) := by
  have hlen := encB_len' c
  have hfl := firstT_len hc
  have g1 := getOf_octets ((encB c).1.length : Int) (by omega) (by omega) (octets ((firstT c).length : Int) ++ (firstT c ++ r))
  have g2 := getOf_octets ((firstT c).length : Int) (by omega) (by omega) (firstT c ++ r)
  have hx : idxE c ++ r = octets ((encB c).1.length : Int) ++ (octets ((firstT c).length : Int) ++ (firstT c ++ r)) := by unfold idxE; simp
  have hl : (idxE c).length = (octets ((encB c).1.length : Int)).length + (octets ((firstT c).length : Int)).length + (firstT c).length := by unfold idxE; simp; omega
  unfold rowP
  rw [hx, g1]
  simp only [Int.toNat_natCast]
  rw [if_neg (by simp), List.drop_left, g2]
  simp only [Int.toNat_natCast]
  rw [if_neg (by simp; omega), hl]
theorem rowP_nil : rowP [] = none := by
  unfold rowP
  rw [if_pos (by decide)]
/-- The blocks from j on. -/
def blkR (l : List En) (j n : Nat) : List Int := (List.range' j n).flatMap fun i => (encB (chunkT l i)).1
theorem blkR_succ (l : List En) (j n : Nat) : blkR l j (n + 1) = (encB (chunkT l j)).1 ++ blkR l (j + 1) n := by
  unfold blkR; rw [List.range'_succ]; simp
theorem blkR_all (l : List En) (m : Nat) : blkR l 0 m = blkT l m := by
  unfold blkR blkT; rw [List.range_eq_range']
theorem rdP_back (l : List En) (hl : ordE none l = 0) : ∀ (n j : Nat) (f : Nat), (∀ i, i < j + n → 16 * i < l.length) → n < f → rdP f (blkR l j n) (idxR l j n) (l.take (16 * j)) = some (l.take (16 * (j + n)))
  | 0, j, f, _, hf => by
    obtain ⟨g, rfl⟩ : ∃ g, f = g + 1 := ⟨f - 1, by omega⟩
    have e : idxR l j 0 = [] := rfl
    rw [rdP, e, rowP_nil]
    simp
  | n + 1, j, f, hi, hf => by
    obtain ⟨g, rfl⟩ : ∃ g, f = g + 1 := ⟨f - 1, by omega⟩
    have hc := chunk_chk hl (hi j (by omega))
    have hdec := dec_encB hc
    have IH := rdP_back l hl n (j + 1) g (fun i h => hi i (by omega)) (by omega)
    have htk : l.take (16 * (j + 1)) = l.take (16 * j) ++ chunkT l j := by
      unfold chunkT; rw [← List.take_add, show 16 * j + 16 = 16 * (j + 1) by omega]
    rw [rdP, idxR_succ, rowP_idx hc, blkR_succ]
    simp only
    rw [if_neg (by simp), List.take_left, hdec]
    simp only
    rw [if_pos trivial, List.drop_left, List.drop_left, ← htk, IH, show j + 1 + n = j + (n + 1) by omega]
theorem read_tab {l : List En} (h : chkT l = 0) : readT (tabO l) (atT l) = some l := by
  obtain ⟨h1, h2, h3⟩ := chkT_ok h
  have hf := fr2_len h
  have hat : atT l = (blkT l (manyT l)).length := rfl
  have hd : (tabO l).drop (atT l) = fr2 l ++ (fr3 l ++ footO (atT l) (toT l) l.length) := by unfold tabO; exact List.drop_left
  have ht : (tabO l).take (atT l) = blkT l (manyT l) := by unfold tabO; exact List.take_left
  have hg : fget (fr2 l ++ (fr3 l ++ footO (atT l) (toT l) l.length)) = (2, idxT l (manyT l), ((fr2 l).length : Int), 0) := fget_back 2 (idxT l (manyT l)) _ (by omega)
  unfold readT
  rw [if_neg (by unfold tabO; simp only [List.length_append]; omega), hd, hg, ht]
  simp only
  rw [if_neg (by simp)]
  have hml : manyT l ≤ (idxT l (manyT l)).length := by
    have : ∀ m, m ≤ (idxT l m).length := by
      intro m
      induction m with
      | zero => simp
      | succ m ih =>
        rw [idxT_succ, List.length_append]
        have := idxE_ne (chunkT l m) []
        rw [List.append_nil] at this
        have := List.length_pos_iff.2 this
        omega
    exact this _
  have hb := rdP_back l h3 (manyT l) 0 ((idxT l (manyT l)).length + 1) (fun i hi => many_le.1 i (by omega)) (by omega)
  rw [Nat.zero_add, idxR_all, blkR_all, List.take_of_length_le many_le.2] at hb
  exact hb
/-- What the program's Open answers of versions that were read. -/
def openL (b : List Int) (L : List En) : List En × (Int × List Int) × Int := if chkT L = 0 ∧ tabO L = b then (L, filT L, 0) else ([], (0, []), 21)
theorem openL_pos {b : List Int} {L : List En} (h : chkT L = 0 ∧ tabO L = b) : openL b L = (L, filT L, 0) := by unfold openL; exact if_pos h
theorem openL_neg {b : List Int} {L : List En} (h : ¬ (chkT L = 0 ∧ tabO L = b)) : openL b L = ([], (0, []), 21) := by unfold openL; exact if_neg h
/-- What the program's Open answers. -/
def openQ (b : List Int) : List En × (Int × List Int) × Int :=
  if (footP b).2 ≠ 0 then ([], (0, []), (footP b).2) else
    openL b ((readT b (footP b).1).getD [])
theorem foot_at {l : List En} (h : chkT l = 0) : footP (tabO l) = (atT l, 0) := by
  have hlen : 20 ≤ (tabO l).length := by
    unfold tabO
    simp [foot_len]
    omega
  have hl := at_len h
  have e4 : ([116, 107, 116, 98] ++ (fourL (atT l) ++ (fourL (toT l) ++ fourL l.length))).drop 4 = fourL (atT l) ++ (fourL (toT l) ++ fourL l.length) := rfl
  unfold footP
  rw [if_neg (by omega), foot_tab, foot_bare]
  simp only
  rw [if_neg (by simp), if_neg (by simp), e4, num_four _ (by omega)]
theorem openQ_foot {b : List Int} (hf : (footP b).2 ≠ 0) : openB b = ([], (0, []), (footP b).2) := by
  by_cases h1 : b.length < 20
  · have e : footP b = (0, 8) := by unfold footP; exact if_pos h1
    rw [e]
    unfold openB
    exact if_pos h1
  · by_cases h2 : (bareOf (footL b)).2 ≠ 0
    · have e : footP b = (0, (bareOf (footL b)).2) := by unfold footP; rw [if_neg h1]; exact if_pos h2
      rw [e]
      unfold openB
      rw [if_neg h1]
      exact if_pos h2
    · by_cases h3 : (bareOf (footL b)).1.take 4 ≠ [116, 107, 116, 98]
      · have e : footP b = (0, 22) := by unfold footP; rw [if_neg h1, if_neg h2]; exact if_pos h3
        rw [e]
        unfold openB
        rw [if_neg h1, if_neg h2]
        exact if_pos h3
      · exfalso
        apply hf
        have e : footP b = (numL ((bareOf (footL b)).1.drop 4), 0) := by unfold footP; rw [if_neg h1, if_neg h2]; exact if_neg h3
        rw [e]
theorem openQ_told {b : List Int} (hf : (footP b).2 = 0) (h : ∀ T, buildB T ≠ (b, 0)) : openB b = ([], (0, []), 21) := by
  by_cases h1 : b.length < 20
  · have e : footP b = (0, 8) := by unfold footP; exact if_pos h1
    rw [e] at hf
    exact absurd hf (by decide)
  · by_cases h2 : (bareOf (footL b)).2 ≠ 0
    · have e : footP b = (0, (bareOf (footL b)).2) := by unfold footP; rw [if_neg h1]; exact if_pos h2
      rw [e] at hf
      exact absurd hf h2
    · by_cases h3 : (bareOf (footL b)).1.take 4 ≠ [116, 107, 116, 98]
      · have e : footP b = (0, 22) := by unfold footP; rw [if_neg h1, if_neg h2]; exact if_pos h3
        rw [e] at hf
        exact absurd hf (by decide)
      · unfold openB
        rw [if_neg h1, if_neg h2, if_neg h3]
        exact if_neg (h _)
theorem openQ_eq (b : List Int) : openQ b = openB b := by
  unfold openQ
  by_cases hf : (footP b).2 ≠ 0
  · rw [if_pos hf, openQ_foot hf]
  · rw [if_neg hf]
    have hf0 : (footP b).2 = 0 := Classical.not_not.1 hf
    obtain ⟨L, hL⟩ : ∃ L, L = (readT b (footP b).1).getD [] := ⟨_, rfl⟩
    rw [← hL]
    by_cases hc : chkT L = 0 ∧ tabO L = b
    · have e := open_tab hc.1
      rw [hc.2] at e
      rw [openL_pos hc, e]
    · rw [openL_neg hc, openQ_told hf0]
      intro T h4
      obtain ⟨k1, k2⟩ := buildB_ok h4
      have hfa := foot_at k1
      have hrt := read_tab k1
      rw [k2] at hfa hrt
      rw [hfa] at hL
      have hL2 : L = (readT b (atT T)).getD [] := hL
      rw [hrt] at hL2
      have hL3 : L = T := hL2
      rw [hL3] at hc
      exact hc ⟨k1, k2⟩
end Go.Proofs.Ytekoniaobmapdab

/- The program's Open of layer 10. -/
namespace Go.Proofs.Ytekoniaobmapdab
open Go.RowKit SumPlain
set_option linter.unusedVariables false
set_option linter.unusedSimpArgs false

theorem results_tabP {fn : Func} (h : fn.results = #[.cell 2 38, .tmp 3]) (tmps : Array Value) (w : World) {N : Nat} {a b c : Value} (ht : tmps.getD 2 undef = .pointer (some ⟨N, 0, none⟩))
    (hc : w.heap[N]? = some (.cells #[a, b, c] 38)) : (results fn tmps).run Try.prog w = .ok (.tuple #[.agg #[a, b, c], tmps.getD 3 undef]) w := by
  have c0 := blk_cell hc 0 a rfl
  have c1 := blk_cell hc 1 b rfl
  have c2 := blk_cell hc 2 c rfl
  have ht' : tmps[2]?.getD undef = .pointer (some ⟨N, 0, none⟩) := by simpa using ht
  simp only [results, h]
  simp [ht', go_sem, c0, c1, c2]

theorem num_lt (l : List Int) (h : ∀ x ∈ l, 0 ≤ x ∧ x ≤ 255) : numL l < 4294967296 := by
  have key : ∀ k, (l.getD k 0).toNat ≤ 255 := fun k => by
    rcases Nat.lt_or_ge k l.length with hk | hk
    · have := h _ (List.mem_of_getElem? (show l[k]? = some (l.getD k 0) by simp [List.getD, List.getElem?_eq_getElem hk]))
      omega
    · simp [List.getD, List.getElem?_eq_none hk]
  have := key 0
  have := key 1
  have := key 2
  have := key 3
  unfold numL
  omega
theorem footP_lt (b : List Int) (h : ∀ x ∈ b, 0 ≤ x ∧ x ≤ 255) : (footP b).1 < 4294967296 := by
  have hn := num_lt ((bareOf (footL b)).1.drop 4) (fun x hx => bareOf_octet (footL b) (fun y hy => h y (List.mem_of_mem_drop hy)) x (List.mem_of_mem_drop hx))
  unfold footP
  split
  · simp
  · split
    · simp
    · split
      · simp
      · exact hn

set_option maxHeartbeats 4000000 in
set_option maxRecDepth 20000 in
theorem open_any (b : List Int) (a : Option Addr) (n c : Nat) (w : World) (hn : n = b.length) (hv : Octs w (.slice a n c) b) (hl : n ≤ 140737488351232) :
    Calls Try.prog 10 #[.slice a n c] w fun e w' => OpE (openB b) w e w' := by
  rw [← openQ_eq b]
  have HV : Hid (Octs w (.slice a n c) b) := hv
  have HN : Hid (n = b.length) := hn
  have HLN : Hid (n ≤ 140737488351232) := hl
  obtain ⟨w0, hw0⟩ : ∃ w0, w0 = w.alloc (.cells #[.slice none 0 0, .int .i64 0, .slice none 0 0] 38) := ⟨_, rfl⟩
  have HW0 : Hid (w.alloc (.cells #[.slice none 0 0, .int .i64 0, .slice none 0 0] 38) = w0) := hw0.symm
  have B0 : Hid (w0.heap[w.heap.size]? = some (.cells #[.slice none 0 0, .int .i64 0, .slice none 0 0] 38)) := by rw [hw0]; exact blk_new _ _
  have U0 : Hid (Below w.heap.size w w0) := by rw [hw0]; exact up_alloc _ _
  have S0 : Hid (w.heap.size < w0.heap.size) := blk_lt B0.out
  have HBAD : Hid (∀ (wz : World) (code : Int), wz.heap[w.heap.size]? = some (.cells #[.slice none 0 0, .int .i64 0, .slice none 0 0] 38) → Below w.heap.size w wz → openQ b = ([], (0, []), code) → (((wz.setCell ⟨w.heap.size, 0, none⟩ (.slice none 0 0)).setCell ⟨w.heap.size, 1, none⟩ (.int .i64 0)).setCell ⟨w.heap.size, 2, none⟩ (.slice none 0 0)).heap[w.heap.size]? = some (.cells #[.slice none 0 0, .int .i64 0, .slice none 0 0] 38) ∧ OpE (openQ b) w (Ending.returned (.tuple #[.agg #[.slice none 0 0, .int .i64 0, .slice none 0 0], .int .i64 code])) (((wz.setCell ⟨w.heap.size, 0, none⟩ (.slice none 0 0)).setCell ⟨w.heap.size, 1, none⟩ (.int .i64 0)).setCell ⟨w.heap.size, 2, none⟩ (.slice none 0 0))) := by
    intro wz code hb hu he
    refine ⟨set3_blk hb _ _ _, ?_⟩
    rw [he]
    exact ⟨none, 0, 0, none, 0, 0, rfl, ⟨rfl, OwnR.nil _ _ _ _⟩, ⟨rfl, OwnB.nil _ _⟩, hu.grown (set3_grown wz w.heap.size _ _ _) hu.size (fun k hk => by injection hk with hk; omega)⟩
  have HFT := hid (readFoot_any b a n c w0 hn (hv.up U0.out) hl)
  clear hw0 hv hn hl
  by_cases hf : (footP b).2 = 0
  · have HOQ : Hid (openQ b = openL b ((readT b (footP b).1).getD [])) := by unfold Hid openQ; rw [if_neg (by simpa using hf)]
    rw [hf] at HFT
    have hat : (footP b).1 < 4294967296 := footP_lt b HV.out.1
    have HRD : Hid (∀ W : World, Below w.heap.size w W → Calls Try.prog 26 #[.slice a n c, .int .i64 ((footP b).1 : Nat)] W fun e w' => RdE (readT b (footP b).1) W e w') := fun W hW => readT_any b _ a n c W HN.out (HV.out.up hW) HLN.out hat
    generalize (footP b).1 = p at *
    clear hf
    cases hr : readT b p with
    | none =>
      rw [hr] at HOQ HRD
      have HO : Hid (openQ b = ([], (0, []), 21)) := by
        unfold Hid
        rw [HOQ.out]
        exact openL_neg (fun h => by have := h.1; revert this; decide)
      clear hr hat
      go_enter Try.func10, Try.ntmps10
      go_upto_region 1 with fail
      rw [HW0.out]
      go_wp2_with fail
      refine HFT.out.mono ?_
      rintro e w1 ⟨rfl, b1⟩
      have U1 := hid (up_trans U0.out b1.out)
      have B1 := hid (blk_up B0.out b1.out)
      go_wp2_with fail
      refine (HRD.out _ U1.out).mono ?_
      rintro e w2 ⟨la, ln, lc, rfl, _, _, b2⟩
      have U2 := hid (up_trans U1.out b2.out)
      have B2 := hid (blk_up B1.out b2.out)
      have y0 := blk_cell B2.out 0 _ rfl
      have y1 := blk_cell B2.out 1 _ rfl
      have y2 := blk_cell B2.out 2 _ rfl
      have f0 := fun k => blk_frozen B2.out k
      simp only [Option.isSome_none]
      clear b1 b2 B1 B0 U1
      go_wp2_with fail
      obtain ⟨r1, r2⟩ := HBAD.out _ 21 B2.out U2.out HO.out
      refine bodyPost_ret (results_tabP rfl _ _ rfl r1) rfl ?_
      exact r2
    | some L =>
      rw [hr] at HOQ HRD
      have HOQ2 : Hid (openQ b = openL b L) := HOQ.out
      clear hr hat HOQ
      go_enter Try.func10, Try.ntmps10
      go_upto_region 1 with fail
      rw [HW0.out]
      go_wp2_with fail
      refine HFT.out.mono ?_
      rintro e w1 ⟨rfl, b1⟩
      have U1 := hid (up_trans U0.out b1.out)
      have B1 := hid (blk_up B0.out b1.out)
      have S1 : Hid (w.heap.size < w1.heap.size) := blk_lt B1.out
      go_wp2_with fail
      refine (HRD.out _ U1.out).mono ?_
      rintro e w2 ⟨la, ln, lc, rfl, hln, LO, b2⟩
      simp only [Option.isSome_some, Option.getD_some] at *
      have U2 := hid (up_trans U1.out b2.out)
      have B2 := hid (blk_up B1.out b2.out)
      have S2 : Hid (w1.heap.size ≤ w2.heap.size) := b2.out.size
      have LE : Hid (EntsR w2 (.slice la ln lc) L) := Rws.own LO.out
      have HCK := hid (checkT_any L _ w2 LE.out)
      clear b1 b2 B1 B0 HRD HFT
      go_wp2_with fail
      refine HCK.out.mono ?_
      rintro e w3 ⟨rfl, b3⟩
      have U3 := hid (up_trans U2.out b3.out)
      have B3 := hid (blk_up B2.out b3.out)
      have LO3 := hid (LO.out.up b3.out)
      have S3 : Hid (w1.heap.size ≤ w3.heap.size) := Nat.le_trans S2.out b3.out.size
      by_cases hch : chkT L = 0
      · rw [hch]
        have LE3 : EntsR w3 (.slice la L.length lc) L := by rw [← hln.out]; exact LE.out.up b3.out
        have HBG := hid (build_good L la lc w3 LE3 hch)
        rw [← hln.out] at HBG
        clear b3 B2 U2 LE LE3 LO HCK
        go_wp2_with fail
        refine HBG.out.mono ?_
        rintro e w4 ⟨ta, tn, tc, fa, fn, fc, rfl, TO, FO, b4⟩
        have TE : Hid (Octs w4 (.slice ta tn tc) (tabO L)) := Octs.own TO.out.2 (tab_oct hch)
        have HOT : Hid (openQ b = if tabO L = b then (L, filT L, 0) else ([], (0, []), 21)) := by
          unfold Hid
          rw [HOQ2.out]
          unfold openL
          by_cases h : tabO L = b
          · rw [if_pos ⟨hch, h⟩, if_pos h]
          · rw [if_neg (fun q => h q.2), if_neg h]
        have U4 := hid (up_trans U3.out b4.out)
        have B4 := hid (blk_up B3.out b4.out)
        have LO4 := hid (LO3.out.up b4.out)
        have FO4 : Hid (fn = (filT L).2.length ∧ OwnB w4 w3.heap.size (.slice fa fn fc) (filT L).2) := FO.out
        have BV4 : Hid (Octs w4 (.slice a n c) b) := HV.out.up U4.out
        clear TO FO b4 B3 U3 LO3 HBG HOQ2 hch
        generalize filT L = FL at *
        generalize tabO L = TB at *
        obtain ⟨w6, hw6⟩ : ∃ w6, w6 = w4.alloc (.cells #[.int .i64 FL.1, .slice fa fn fc] 36) := ⟨_, rfl⟩
        have HW6 : Hid (w4.alloc (.cells #[.int .i64 FL.1, .slice fa fn fc] 36) = w6) := hw6.symm
        have B6 : Hid (w6.heap[w4.heap.size]? = some (.cells #[.int .i64 FL.1, .slice fa fn fc] 36)) := by rw [hw6]; exact blk_new _ _
        have U6 : Hid (Below w4.heap.size w4 w6) := by rw [hw6]; exact up_alloc _ _
        have HEQ := hid (equal_any TB b _ _ w6 (TE.out.up U6.out) (BV4.out.up U6.out))
        have q0 := blk_cell B6.out 0 _ rfl
        have q1 := blk_cell B6.out 1 _ rfl
        have BR := hid (blk_up B4.out U6.out)
        have y0 := blk_cell BR.out 0 _ rfl
        have y1 := blk_cell BR.out 1 _ rfl
        have y2 := blk_cell BR.out 2 _ rfl
        have f0 := fun k => blk_frozen BR.out k
        have U6' := hid (up_trans U4.out U6.out)
        have LO6 := hid (LO4.out.up U6.out)
        have FO6 := hid (own_up FO4.out.2 U6.out)
        have FN : Hid (fn = FL.2.length) := FO4.out.1
        clear hw6 FO4 LO4 B4 B6 U4 BV4 TE
        go_upto_region 8 with fail
        rw [HW6.out]
        go_wp2_with fail
        refine HEQ.out.mono ?_
        rintro e w7 ⟨rfl, rfl⟩
        by_cases htb : TB = b
        · rw [decide_eq_true htb]
          rw [if_pos htb] at HOT
          clear htb HEQ
          go_wp2_with fail
          refine bodyPost_ret (results_tabP rfl _ _ rfl (set3_blk BR.out _ _ _)) rfl ?_
          rw [HOT.out]
          refine ⟨la, ln, lc, fa, fn, fc, rfl, ⟨hln.out, ?_⟩, ⟨FN.out, ?_⟩, ?_⟩
          · exact (LO6.out.far (set3_grown w7 w.heap.size _ _ _) (LO6.out.ne_lt S1.out)).mono (Nat.le_of_lt S1.out)
          · exact ownB_far FO6.out (set3_grown w7 w.heap.size _ _ _) (Nat.lt_of_lt_of_le S1.out S3.out)
          · exact U6'.out.grown (set3_grown w7 w.heap.size _ _ _) U6'.out.size (fun k hk => by injection hk with hk; omega)
        · rw [decide_eq_false htb]
          rw [if_neg htb] at HOT
          clear htb HEQ
          go_wp2_with fail
          obtain ⟨r1, r2⟩ := HBAD.out _ 21 BR.out U6'.out HOT.out
          refine bodyPost_ret (results_tabP rfl _ _ rfl r1) rfl ?_
          exact r2
      · have HO : Hid (openQ b = ([], (0, []), 21)) := by
          unfold Hid
          rw [HOQ2.out]
          exact openL_neg (fun h => hch h.1)
        generalize chkT L = z at *
        have hz1 : (z == 0) = false := by simp [hch]
        have hz2 : (z != 0) = true := by simp [hch]
        have y0 := blk_cell B3.out 0 _ rfl
        have y1 := blk_cell B3.out 1 _ rfl
        have y2 := blk_cell B3.out 2 _ rfl
        have f0 := fun k => blk_frozen B3.out k
        clear b3 B2 U2 LE LO LO3
        go_wp2_with fail
        obtain ⟨r1, r2⟩ := HBAD.out _ 21 B3.out U3.out HO.out
        refine bodyPost_ret (results_tabP rfl _ _ rfl r1) rfl ?_
        exact r2
  · have HO : Hid (openQ b = ([], (0, []), (footP b).2)) := by unfold Hid openQ; rw [if_pos hf]
    generalize (footP b).2 = q at *
    have hq1 : (q == 0) = false := by simp [hf]
    have hq2 : (q != 0) = true := by simp [hf]
    go_enter Try.func10, Try.ntmps10
    go_upto_region 1 with fail
    rw [HW0.out]
    go_wp2_with fail
    refine HFT.out.mono ?_
    rintro e w1 ⟨rfl, b1⟩
    have U1 := hid (up_trans U0.out b1.out)
    have B1 := hid (blk_up B0.out b1.out)
    have y0 := blk_cell B1.out 0 _ rfl
    have y1 := blk_cell B1.out 1 _ rfl
    have y2 := blk_cell B1.out 2 _ rfl
    have f0 := fun k => blk_frozen B1.out k
    clear b1 B0
    go_wp2_with fail
    obtain ⟨r1, r2⟩ := HBAD.out _ q B1.out U1.out HO.out
    refine bodyPost_ret (results_tabP rfl _ _ rfl r1) rfl ?_
    exact r2
end Go.Proofs.Ytekoniaobmapdab

/- The program's Seek of layer 9. -/
namespace Go.Proofs.Ytekoniaobmapdab
open Go.RowKit SumPlain
set_option linter.unusedVariables false
set_option linter.unusedSimpArgs false

def fitE (key : ByteArray) (seq : Int) (x : En) : Bool := (x.key.toList == key.toList) && decide (x.seq ≤ seq)
end Go.Proofs.Ytekoniaobmapdab

/- The program's Get of layer 10. -/
namespace Go.Proofs.Ytekoniaobmapdab
open Go.RowKit SumPlain
set_option linter.unusedVariables false
set_option linter.unusedSimpArgs false

set_option maxRecDepth 100000 in
theorem fitT_any (x : En) (key : ByteArray) (seq : Int) (NK NS : Nat) (w : World) (hk : w.cell? ⟨NK, 0, none⟩ = some (.string key)) (hs : w.cell? ⟨NS, 0, none⟩ = some (.int .i64 seq)) :
    Calls Try.prog 29 #[enV x, .pointer (some ⟨NK, 0, none⟩), .pointer (some ⟨NS, 0, none⟩)] w fun e w' => e = .returned (.bool (fitE key seq x)) ∧ Below w.heap.size w w' := by
  have hk2 := cellAl hk (enObj x)
  have hs2 := cellAl hs (enObj x)
  unfold enObj at hk2 hs2
  unfold enV fitE
  cases q1 : (x.key.toList == key.toList)
  · go_enter Try.func29, Try.ntmps29
    go_wp2
    go_ret
    exact ⟨rfl, up_alloc _ _⟩
  · by_cases q2 : x.seq ≤ seq
    · have q3 : decide (x.seq ≤ seq) = true := by simp [q2]
      go_enter Try.func29, Try.ntmps29
      go_wp2
      go_ret
      exact ⟨by simp [q2], up_alloc _ _⟩
    · have q3 : decide (x.seq ≤ seq) = false := by simp [q2]
      go_enter Try.func29, Try.ntmps29
      go_wp2
      go_ret
      exact ⟨by simp [q2], up_alloc _ _⟩

/-- What IndexFunc says. -/
def IdxT (l : List En) (key : ByteArray) (seq : Int) (r : Int) : Prop := (r = -1 ∧ firstF l key seq = none) ∨ ∃ (k : Nat) (y : En), r = (k : Int) ∧ l[k]? = some y ∧ firstF l key seq = some y
set_option maxHeartbeats 1000000 in
set_option maxRecDepth 100000 in
theorem indexT_any (l : List En) (v : Value) (key : ByteArray) (seq : Int) (NK NS : Nat) (w : World) (hv : EntsR w v l) (hk : w.cell? ⟨NK, 0, none⟩ = some (.string key)) (hs : w.cell? ⟨NS, 0, none⟩ = some (.int .i64 seq)) :
    Calls Try.prog 28 #[v, .func (.func 29) #[] #[.pointer (some ⟨NK, 0, none⟩), .pointer (some ⟨NS, 0, none⟩)]] w fun e w' => ∃ r, e = .returned (.int .i64 r) ∧ Hid (IdxT l key seq r) ∧ Hid (Below w.heap.size w w') := by
  have HV : Hid (EntsR w v l ∧ w.cell? ⟨NK, 0, none⟩ = some (.string key) ∧ w.cell? ⟨NS, 0, none⟩ = some (.int .i64 seq)) := ⟨hv, hk, hs⟩
  obtain ⟨a, cap, rfl, hcap, hmax⟩ := hv.len
  clear hv hs hk
  unfold maxLen at hmax
  go_enter Try.func28, Try.ntmps28
  go_wp2_with fail
  go_loopw [8] (fun i wr => ∃ k : Nat, k ≤ l.length ∧ i = .int .i64 k ∧ Hid (firstF (l.drop k) key seq = firstF l key seq) ∧ Hid (Below w.heap.size w wr)) (fun i _ => l.length - (intOf i).toNat)
  case atStart => exact ⟨0, Nat.zero_le _, rfl, by simp [Hid], Below.refl _ _⟩
  case round =>
    obtain ⟨k, hk, rfl, HK, up⟩ := hrel
    by_cases hlt : k < l.length
    · have hlt' : (k : Int) < (l.length : Int) := by omega
      obtain ⟨b, off, cap', y, e, hy, c0, c1, c2, c3⟩ := (HV.out.1.up up.out).at k hlt
      simp at e
      obtain ⟨rfl, rfl⟩ := e
      have HD : Hid (firstF (l.drop k) key seq = if ((y.key.toList == key.toList) && decide (y.seq ≤ seq)) = true then some y else firstF (l.drop (k + 1)) key seq) := firstF_drop (key := key) (seq := seq) hy
      have HY : Hid (l[k]? = some y) := hy
      have HC := hid (fitT_any y key seq NK NS wr ((up.out.cell (World.block_lt_of_cell? w _ HV.out.2.1)).trans HV.out.2.1) ((up.out.cell (World.block_lt_of_cell? w _ HV.out.2.2)).trans HV.out.2.2))
      unfold enV at HC
      clear hy
      cases d : fitE key seq y with
      | true =>
        have HM : Hid (IdxT l key seq (k : Int)) := by
          have d' : ((y.key.toList == key.toList) && decide (y.seq ≤ seq)) = true := d
          refine .inr ⟨k, y, rfl, HY.out, ?_⟩
          rw [← HK.out, HD.out, if_pos d']
        rw [d] at HC
        clear d
        go_wp2_with fail
        refine HC.out.mono ?_
        rintro e w1 ⟨rfl, hb1⟩
        have up1 : Hid (Below w.heap.size w w1) := up_trans up.out hb1
        clear hb1
        go_wp2_with fail
        go_ret
        exact ⟨_, rfl, HM, up1⟩
      | false =>
        have HK2 : Hid (firstF (l.drop (k + 1)) key seq = firstF l key seq) := by
          have d' : ((y.key.toList == key.toList) && decide (y.seq ≤ seq)) = false := d
          unfold Hid
          rw [← HK.out, HD.out, if_neg (by rw [d']; simp)]
        rw [d] at HC
        clear d
        go_wp2_with fail
        refine HC.out.mono ?_
        rintro e w1 ⟨rfl, hb1⟩
        have up1 : Hid (Below w.heap.size w w1) := up_trans up.out hb1
        clear hb1
        go_wp2_with fail
        exact ⟨⟨k + 1, by omega, by go_num, HK2, up1⟩, by simp [intOf]; omega⟩
    · have hlt' : ¬ (k : Int) < (l.length : Int) := by omega
      obtain rfl : k = l.length := by omega
      have HM : Hid (IdxT l key seq (-1)) := by
        refine .inl ⟨rfl, ?_⟩
        rw [← HK.out, List.drop_length]
        rfl
      go_wp2_with fail
      go_ret
      exact ⟨_, rfl, HM, up⟩

set_option maxHeartbeats 1000000 in
set_option maxRecDepth 100000 in
theorem get_any10 (B : List Int) (va : Option Addr) (vn vc : Nat) (key : ByteArray) (seq : Int) (w : World) (hvn : vn = B.length) (hv : Octs w (.slice va vn vc) B) (hl : vn ≤ 140737488351232) :
    Calls Try.prog 13 #[.slice va vn vc, .string key, .int .i64 seq] w fun e w' => e = .returned (.tuple #[enV (getT B key seq).1, .bool (getT B key seq).2.1, .int .i64 (getT B key seq).2.2]) ∧ Hid (Below w.heap.size w w') := by
  obtain ⟨wa, hwa⟩ : ∃ wa, wa = ((w.alloc (.cells #[.string key] 9)).alloc (.cells #[.int .i64 seq] 3)).alloc (.cells #[.string ⟨#[]⟩, .int .i64 0, .int .i64 0, .string ⟨#[]⟩] 32) := ⟨_, rfl⟩
  have HWA : Hid (((w.alloc (.cells #[.string key] 9)).alloc (.cells #[.int .i64 seq] 3)).alloc (.cells #[.string ⟨#[]⟩, .int .i64 0, .int .i64 0, .string ⟨#[]⟩] 32) = wa) := hwa.symm
  have HB : Hid (Below w.heap.size w wa ∧ wa.heap[w.heap.size + 1 + 1]? = some (.cells #[.string ⟨#[]⟩, .int .i64 0, .int .i64 0, .string ⟨#[]⟩] 32) ∧ wa.heap[w.heap.size]? = some (.cells #[.string key] 9) ∧ wa.heap[w.heap.size + 1]? = some (.cells #[.int .i64 seq] 3)) := by
    rw [hwa]
    refine ⟨up_al (up_al (up_alloc _ _) _) _, ?_, blk_up (blk_new _ _) (up_al (up_alloc _ _) _), ?_⟩
    · have := blk_new ((w.alloc (.cells #[.string key] 9)).alloc (.cells #[.int .i64 seq] 3)) (.cells #[.string ⟨#[]⟩, .int .i64 0, .int .i64 0, .string ⟨#[]⟩] 32)
      have e : ((w.alloc (.cells #[.string key] 9)).alloc (.cells #[.int .i64 seq] 3)).heap.size = w.heap.size + 1 + 1 := by simp
      rw [e] at this
      exact this
    · have := blk_new (w.alloc (.cells #[.string key] 9)) (.cells #[.int .i64 seq] 3)
      have e : (w.alloc (.cells #[.string key] 9)).heap.size = w.heap.size + 1 := by simp
      rw [e] at this
      exact blk_up this (up_alloc _ _)
  have HC := open_any B va vn vc wa hvn (hv.up HB.out.1) hl
  clear hwa hv hvn hl
  have HEND : Hid (∀ (wz : World) (y : En) (b : Bool) (code : Int), Below w.heap.size w wz → wz.heap[w.heap.size + 1 + 1]? = some (.cells #[.string ⟨#[]⟩, .int .i64 0, .int .i64 0, .string ⟨#[]⟩] 32) → getT B key seq = (y, b, code) →
      ((((wz.setCell ⟨w.heap.size + 1 + 1, 0, none⟩ (.string y.key)).setCell ⟨w.heap.size + 1 + 1, 1, none⟩ (.int .i64 y.seq)).setCell ⟨w.heap.size + 1 + 1, 2, none⟩ (.int .i64 y.kind)).setCell ⟨w.heap.size + 1 + 1, 3, none⟩ (.string y.val)).heap[w.heap.size + 1 + 1]? = some (.cells #[.string y.key, .int .i64 y.seq, .int .i64 y.kind, .string y.val] 32) ∧
      (Ending.returned (.tuple #[.agg #[.string y.key, .int .i64 y.seq, .int .i64 y.kind, .string y.val], .bool b, .int .i64 code]) = .returned (.tuple #[enV (getT B key seq).1, .bool (getT B key seq).2.1, .int .i64 (getT B key seq).2.2]) ∧ Hid (Below w.heap.size w ((((wz.setCell ⟨w.heap.size + 1 + 1, 0, none⟩ (.string y.key)).setCell ⟨w.heap.size + 1 + 1, 1, none⟩ (.int .i64 y.seq)).setCell ⟨w.heap.size + 1 + 1, 2, none⟩ (.int .i64 y.kind)).setCell ⟨w.heap.size + 1 + 1, 3, none⟩ (.string y.val))))) := by
    intro wz y b code hb h27 he
    refine ⟨set4_blk h27 _ _ _ _, by rw [he]; rfl, ?_⟩
    exact hb.grown (set4_grown wz (w.heap.size + 1 + 1) _ _ _ _) hb.size (fun k hk => by injection hk with hk; omega)
  go_enter Try.func13, Try.ntmps13
  go_upto_region 1 with fail
  rw [HWA.out]
  clear HWA
  go_wp2_with fail
  refine HC.mono ?_
  rintro e w0 ⟨a, n, c, fa, fn, fc, rfl, HLL, HFF, U0⟩
  obtain ⟨w1, hw1⟩ : ∃ w1, w1 = w0.alloc (.cells #[.slice a n c, .int .i64 (openB B).2.1.1, .slice fa fn fc] 38) := ⟨_, rfl⟩
  have HW1 : Hid (w0.alloc (.cells #[.slice a n c, .int .i64 (openB B).2.1.1, .slice fa fn fc] 38) = w1) := hw1.symm
  have BT : Hid (w1.heap[w0.heap.size]? = some (.cells #[.slice a n c, .int .i64 (openB B).2.1.1, .slice fa fn fc] 38)) := by rw [hw1]; exact blk_new _ _
  have UA : Hid (Below w0.heap.size w0 w1) := by rw [hw1]; exact up_alloc _ _
  have HN : Hid (n = (openB B).1.length) := HLL.out.1
  have HL : Hid (OwnR w1 wa.heap.size 32 4 (.slice a n c) ((openB B).1.map enRow)) := HLL.out.2.up UA.out
  have U1 : Hid (Below wa.heap.size wa w1) := up_trans U0.out UA.out
  clear hw1 HLL HFF U0 UA
  have HB1 : Hid (Below w.heap.size w w1 ∧ w1.heap[w.heap.size + 1 + 1]? = some (.cells #[.string ⟨#[]⟩, .int .i64 0, .int .i64 0, .string ⟨#[]⟩] 32)) := ⟨up_trans HB.out.1 U1.out, blk_up HB.out.2.1 U1.out⟩
  have HKS : Hid (w1.cell? ⟨w.heap.size, 0, none⟩ = some (.string key) ∧ w1.cell? ⟨w.heap.size + 1, 0, none⟩ = some (.int .i64 seq)) := ⟨blk_cell (blk_up HB.out.2.2.1 U1.out) 0 _ rfl, blk_cell (blk_up HB.out.2.2.2 U1.out) 0 _ rfl⟩
  clear HC HB U1
  have k0 := blk_cell BT.out 0 _ rfl
  by_cases hG : (openB B).2.2 = 0
  · rw [hG]
    have HGV : Hid (getT B key seq = ((firstV (openB B).1 key seq).1, (firstV (openB B).1 key seq).2, 0)) := by
      unfold Hid getT
      rw [if_pos hG]
    have HLR : Hid (EntsR w1 (.slice a n c) (openB B).1) := Rws.own HL.out
    have HF := indexT_any (openB B).1 _ key seq w.heap.size (w.heap.size + 1) w1 HLR.out HKS.out.1 HKS.out.2
    clear hG HL
    generalize (openB B).1 = L at *
    generalize (openB B).2.1.1 = fk at *
    go_upto_region 2 with fail
    rw [HW1.out]
    have hnm : n ≤ 9223372036854775807 := by
      obtain ⟨_, _, e, h4, h5⟩ := HLR.out.len
      unfold maxLen at h5
      rw [HN.out]
      omega
    go_wp2_with fail
    refine HF.mono ?_
    rintro e w2 ⟨r, rfl, HI, U2⟩
    clear HF
    have HB2 : Hid (Below w.heap.size w w2 ∧ w2.heap[w.heap.size + 1 + 1]? = some (.cells #[.string ⟨#[]⟩, .int .i64 0, .int .i64 0, .string ⟨#[]⟩] 32)) := ⟨up_trans HB1.out.1 U2.out, blk_up HB1.out.2 U2.out⟩
    have HL2 : Hid (EntsR w2 (.slice a n c) L) := HLR.out.up U2.out
    have k2 := blk_cell (blk_up BT.out U2.out) 0 _ rfl
    clear k0
    have d0 : w2.cell? ⟨w.heap.size + 1 + 1, 0, none⟩ = some (.string ⟨#[]⟩) := blk_cell HB2.out.2 0 _ rfl
    have d1 : w2.cell? ⟨w.heap.size + 1 + 1, 1, none⟩ = some (.int .i64 0) := blk_cell HB2.out.2 1 _ rfl
    have d2 : w2.cell? ⟨w.heap.size + 1 + 1, 2, none⟩ = some (.int .i64 0) := blk_cell HB2.out.2 2 _ rfl
    have d3 : w2.cell? ⟨w.heap.size + 1 + 1, 3, none⟩ = some (.string ⟨#[]⟩) := blk_cell HB2.out.2 3 _ rfl
    have f0 := fun k => blk_frozen HB2.out.2 k
    rcases HI.out with ⟨rfl, hf⟩ | ⟨k, y, rfl, hy, hf⟩
    · have HGE : Hid (getT B key seq = (default, false, 0)) := by
        have := HGV.out
        unfold firstV at this
        rw [hf] at this
        exact this
      clear hf
      go_wp2_with fail
      obtain ⟨hz1, hz2⟩ := HEND.out w2 default false 0 HB2.out.1 HB2.out.2 HGE.out
      exact bodyPost_ret (results_ent3 (q := 6) (r := 7) (u := 8) rfl _ _ rfl hz1) rfl hz2
    · have HGE : Hid (getT B key seq = (y, true, 0)) := by
        have := HGV.out
        unfold firstV at this
        rw [hf] at this
        exact this
      have hkl := (List.getElem?_eq_some_iff.1 hy).1
      obtain ⟨b, off, cap, y', e, hy', z0, z1, z2, z3⟩ := HL2.out.at k hkl
      simp only [Value.slice.injEq] at e
      obtain ⟨rfl, _, rfl⟩ := e
      obtain rfl : y = y' := by rw [hy] at hy'; injection hy'
      have hk1 : ¬ (k : Int) < 0 := by omega
      have hk2 : (0 : Int) ≤ (k : Int) := by omega
      have hk3 : (k : Int) < (n : Int) := by rw [HN.out]; omega
      clear hf hy hy'
      go_wp2_with fail
      obtain ⟨hz1, hz2⟩ := HEND.out w2 y true 0 HB2.out.1 HB2.out.2 HGE.out
      exact bodyPost_ret (results_ent3 (q := 6) (r := 7) (u := 8) rfl _ _ rfl hz1) rfl hz2
  · have HE : Hid (getT B key seq = (default, false, (openB B).2.2)) := by
      unfold Hid getT
      rw [if_neg hG]
    generalize (openB B).2.2 = q at *
    generalize (openB B).2.1.1 = fk at *
    have hq1 : (q == 0) = false := by simp [hG]
    have hq2 : (q != 0) = true := by simp [hG]
    have d0 : w1.cell? ⟨w.heap.size + 1 + 1, 0, none⟩ = some (.string ⟨#[]⟩) := blk_cell HB1.out.2 0 _ rfl
    have d1 : w1.cell? ⟨w.heap.size + 1 + 1, 1, none⟩ = some (.int .i64 0) := blk_cell HB1.out.2 1 _ rfl
    have d2 : w1.cell? ⟨w.heap.size + 1 + 1, 2, none⟩ = some (.int .i64 0) := blk_cell HB1.out.2 2 _ rfl
    have d3 : w1.cell? ⟨w.heap.size + 1 + 1, 3, none⟩ = some (.string ⟨#[]⟩) := blk_cell HB1.out.2 3 _ rfl
    have f0 := fun k => blk_frozen HB1.out.2 k
    go_upto_region 2 with fail
    rw [HW1.out]
    go_wp2_with fail
    obtain ⟨hz1, hz2⟩ := HEND.out w1 default false q HB1.out.1 HB1.out.2 HE.out
    exact bodyPost_ret (results_ent3 (q := 6) (r := 7) (u := 8) rfl _ _ rfl hz1) rfl hz2
end Go.Proofs.Ytekoniaobmapdab

/- What is got of versions in order. -/
namespace Go.Proofs.Ytekoniaobmapdab
open Go.RowKit SumPlain
set_option linter.unusedVariables false
set_option linter.unusedSimpArgs false

theorem getT_tab {l : List En} (h : chkT l = 0) (key : ByteArray) (seq : Int) : getT (tabO l) key seq = ((firstV l key seq).1, (firstV l key seq).2, 0) := by
  unfold getT
  rw [open_tab h]
  simp
end Go.Proofs.Ytekoniaobmapdab
