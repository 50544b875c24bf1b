/- The texts TOpen, TOrd, TGet, TBet, TLaw, TOf, YCom, in this order. -/
import Derived.Test.YtekoniaobmapdaaGreatTTold
import Derived.Deep.RegionHeld3
import Derived.Test.YtekoniaobmapdaaGreatG17
import Derived.Test.YtekoniaobmapdaaGreatG18
import Derived.Test.YtekoniaobmapdaaGreatG09

/- The walk of the document's Open of layer 10. -/
namespace Go.Proofs.YtekoniaobmapdaaGreat
open Go.RowKit SumPlain
set_option linter.unusedVariables false
set_option linter.unusedSimpArgs false

theorem results_tab {fn : Func} {q r : Nat} {t : TypeId} (ht2 : t = 39) (h : fn.results = #[.cell q t, .tmp r]) (tmps : Array Value) (w : World) {N : Nat} {a b c : Value} (ht : tmps.getD q undef = .pointer (some ⟨N, 0, none⟩))
    (hc : w.heap[N]? = some (.cells #[a, b, c] t)) : (results fn tmps).run Tryz.prog w = .ok (.tuple #[.agg #[a, b, c], tmps.getD r undef]) w := by
  subst ht2
  have c0 := blk_cell hc 0 a rfl
  have c1 := blk_cell hc 1 b rfl
  have c2 := blk_cell hc 2 c rfl
  have ht' : tmps[q]?.getD undef = .pointer (some ⟨N, 0, none⟩) := by simpa using ht
  simp only [results, h]
  simp [ht', go_sem, c0, c1, c2]
theorem set3_blk {w : World} {N : Nat} {t : TypeId} {x0 x1 x2 : Value} (h : w.heap[N]? = some (.cells #[x0, x1, x2] t)) (a b c : Value) : (((w.setCell ⟨N, 0, none⟩ a).setCell ⟨N, 1, none⟩ b).setCell ⟨N, 2, none⟩ c).heap[N]? = some (.cells #[a, b, c] t) := by
  have := blk_set (blk_set (blk_set h 0 a) 1 b) 2 c
  simpa only [List.setIfInBounds_toArray, List.set_cons_zero, List.set_cons_succ] using this
theorem set3_grown (w : World) (N : Nat) (a b c : Value) : w.grownBy (((w.setCell ⟨N, 0, none⟩ a).setCell ⟨N, 1, none⟩ b).setCell ⟨N, 2, none⟩ c) (some N) :=
  grown_trans (grown_trans (grown_set w ⟨N, 0, none⟩ a) (grown_set _ ⟨N, 1, none⟩ b)) (grown_set _ ⟨N, 2, none⟩ c)

/-- How Open ends: o is what it answers. -/
def OpE (o : List En × (Int × List Int) × Int) (w : World) (e : Ending) (w' : World) : Prop := ∃ ea en ec fa fn fc, e = .returned (.tuple #[.agg #[.slice ea en ec, .int .i64 o.2.1.1, .slice fa fn fc], .int .i64 o.2.2]) ∧ Hid (en = o.1.length ∧ OwnR w' w.heap.size 43 4 (.slice ea en ec) (o.1.map enRow)) ∧ Hid (fn = o.2.1.2.length ∧ OwnB w' w.heap.size (.slice fa fn fc) o.2.1.2) ∧ Hid (Below w.heap.size w w')

theorem ownB_far {w w' : World} {base r m : Nat} {v : Value} {l : List Int} (h : OwnB w base v l) (hg : w.grownBy w' (some r)) (hr : r < base) (hm : m ≤ r := by exact Nat.le_refl _) : OwnB w' m v l := by
  have hne : v.ownBlock = none ∨ v.ownBlock ≠ some r := by
    rcases h.2 with ⟨e, _⟩ | ⟨g, cap, cur, e, hg, _⟩
    · rw [e]; exact .inl rfl
    · right
      rw [e]
      intro q
      simp only [Value.ownBlock] at q
      simp at q
      omega
  exact OwnB.mono (World.ownsRow.kept h hg hne) (by omega)
theorem num_take (l : List Int) : numL (l.take 4) = numL l := by
  unfold numL
  simp [List.getD, List.getElem?_take]
theorem bare_len {l : List Int} (h : (bareOf l).2 = 0) (hl : l.length = 20) : (bareOf l).1.length = 16 := by
  have := (bareOf_good (l := l) (x := (bareOf l).1) (by rw [← h])).1
  omega

set_option maxHeartbeats 4000000 in
set_option maxRecDepth 100000 in
theorem refOpen_any (b : List Int) (a : Option Addr) (n c : Nat) (w : World) (hn : n = b.length) (hv : Octs w (.slice a n c) b) (hl : n ≤ 140737488351232) :
    Calls Tryz.prog 9 #[.slice a n c] w fun e w' => OpE (openB b) w e w' := by
  have HV : Hid (Octs w (.slice a n c) b) := hv
  have HN : Hid (n = b.length) := hn
  obtain ⟨w0, hw0⟩ : ∃ w0, w0 = w.alloc (.cells #[.slice none 0 0, .int .i64 0, .slice none 0 0] 39) := ⟨_, rfl⟩
  have HW0 : Hid (w.alloc (.cells #[.slice none 0 0, .int .i64 0, .slice none 0 0] 39) = w0) := hw0.symm
  have B0 : Hid (w0.heap[w.heap.size]? = some (.cells #[.slice none 0 0, .int .i64 0, .slice none 0 0] 39)) := by rw [hw0]; exact blk_new _ _
  have U0 : Hid (Below w.heap.size w w0) := by rw [hw0]; exact up_alloc _ _
  -- a refusal
  have HBAD : Hid (∀ (wz : World) (code : Int), wz.heap[w.heap.size]? = some (.cells #[.slice none 0 0, .int .i64 0, .slice none 0 0] 39) → Below w.heap.size w wz → openB b = ([], (0, []), code) → (((wz.setCell ⟨w.heap.size, 0, none⟩ (.slice none 0 0)).setCell ⟨w.heap.size, 1, none⟩ (.int .i64 0)).setCell ⟨w.heap.size, 2, none⟩ (.slice none 0 0)).heap[w.heap.size]? = some (.cells #[.slice none 0 0, .int .i64 0, .slice none 0 0] 39) ∧ OpE (openB b) w (Ending.returned (.tuple #[.agg #[.slice none 0 0, .int .i64 0, .slice none 0 0], .int .i64 code])) (((wz.setCell ⟨w.heap.size, 0, none⟩ (.slice none 0 0)).setCell ⟨w.heap.size, 1, none⟩ (.int .i64 0)).setCell ⟨w.heap.size, 2, none⟩ (.slice none 0 0))) := by
    intro wz code hb hu he
    refine ⟨set3_blk hb _ _ _, ?_⟩
    rw [he]
    exact ⟨none, 0, 0, none, 0, 0, rfl, ⟨rfl, OwnR.nil _ _ _ _⟩, ⟨rfl, OwnB.nil _ _⟩, hu.grown (set3_grown wz w.heap.size _ _ _) hu.size (fun k hk => by injection hk with hk; omega)⟩
  clear hw0 hv
  by_cases h20 : n < 20
  · have h20' : (n : Int) < 20 := by omega
    have HE : Hid (openB b = ([], (0, []), 8)) := by unfold Hid openB; rw [if_pos (by omega)]
    clear hn
    have y0 := blk_cell B0.out 0 _ rfl
    have y1 := blk_cell B0.out 1 _ rfl
    have y2 := blk_cell B0.out 2 _ rfl
    have f0 := fun k => blk_frozen B0.out k
    go_enter Tryz.func9, Tryz.ntmps9
    go_upto_region 1 with fail
    rw [HW0.out]
    go_wp2_with fail
    obtain ⟨r1, r2⟩ := HBAD.out _ 8 B0.out U0.out HE.out
    refine bodyPost_ret (results_tab rfl rfl _ _ rfl r1) rfl ?_
    exact r2
  have h20' : ¬ (n : Int) < 20 := by omega
  obtain ⟨f, hf⟩ : ∃ f : Nat, (n : Int) - 20 = (f : Int) := ⟨n - 20, by omega⟩
  have hfw : IntKind.i64.wrap (f : Int) = (f : Int) := wrap64_id _ (by omega) (by omega)
  have i1 : (0 : Int) ≤ (f : Int) := by omega
  have i2 : (f : Int) ≤ (n : Int) := by omega
  obtain ⟨A, hA⟩ : ∃ A, (if c = f then a else a.map (fun x => x.add f)) = A := ⟨_, rfl⟩
  have HFT : Hid (Octs w0 (.slice A (n - f) (c - f)) (footL b)) := by
    have h := HV.out.up U0.out
    rw [hn] at h ⊢
    rw [← hA]
    unfold footL
    rw [show b.length - 20 = f by omega]
    exact octs_from h f (by omega)
  have HFL : Hid ((footL b).length = 20) := by unfold Hid footL; rw [List.length_drop]; omega
  have HBR := hid (refBare_any (footL b) _ w0 HFT.out (by rw [HFL.out]; omega))
  have HO1 : Hid (openB b = if (bareOf (footL b)).2 ≠ 0 then ([], (0, []), (bareOf (footL b)).2) else
      if (bareOf (footL b)).1.take 4 ≠ [116, 107, 116, 98] then ([], (0, []), 22) else
        if buildB (toldX b (numL ((bareOf (footL b)).1.drop 4)) (numL ((bareOf (footL b)).1.drop 8))) = (b, 0) then
          (toldX b (numL ((bareOf (footL b)).1.drop 4)) (numL ((bareOf (footL b)).1.drop 8)), filT (toldX b (numL ((bareOf (footL b)).1.drop 4)) (numL ((bareOf (footL b)).1.drop 8))), 0)
        else ([], (0, []), 21)) := by
    unfold Hid openB
    rw [if_neg (by omega)]
  have HBO : Hid (∀ y ∈ (bareOf (footL b)).1, 0 ≤ y ∧ y ≤ 255) := bare_oct HFT.out.1
  by_cases he : (bareOf (footL b)).2 = 0
  · have HXL : Hid ((bareOf (footL b)).1.length = 16) := bare_len he HFL.out
    rw [he] at HBR
    rw [if_neg (fun q => q he)] at HO1
    generalize (bareOf (footL b)).1 = X at *
    clear hn HFT HFL he
    go_enter Tryz.func9, Tryz.ntmps9
    go_upto_region 1 with fail
    rw [HW0.out]
    go_wp2_with fail
    refine HBR.out.mono ?_
    rintro e w1 ⟨v1, rfl, O1, u1⟩
    obtain ⟨ta, tn, tc, rfl, htn⟩ := own_shape O1
    obtain rfl : tn = 16 := by rw [htn.out, HXL.out]
    have HX1 : Hid (Octs w1 (.slice ta 16 tc) X) := Octs.own O1 HBO.out
    clear htn
    have hfm := HX1.out
    rw [← HXL.out] at hfm
    rcases hfm.form with ⟨_, h, _⟩ | ⟨_, _, h⟩ | ⟨g, o, rfl, hne, hc, hm⟩
    · rw [h] at HXL; exact absurd HXL.out (by decide)
    · rw [h] at HXL; exact absurd HXL.out (by decide)
    have hc16 : 16 ≤ tc := by have := HXL.out; omega
    have B1 : Hid (w1.heap[w.heap.size]? = some (.cells #[.slice none 0 0, .int .i64 0, .slice none 0 0] 39)) := blk_up B0.out u1
    have U1 : Hid (Below w.heap.size w w1) := up_trans U0.out u1
    have o4 : Octs w1 (.slice (some ⟨g, o, none⟩) 4 tc) (X.take 4) := by
      have h := octs_part hfm 0 4 (by omega) (by have := HXL.out; omega)
      rw [if_neg (by omega)] at h
      simpa [Addr.add] using h
    have hcv := run_convert_octs _ _ w1 o4
    have c4 : (4 : Int) ≤ (tc : Int) := by omega
    have c8 : (8 : Int) ≤ (tc : Int) := by omega
    have hz4 : ¬ tc = 4 := by omega
    have hz8 : ¬ tc = 8 := by omega
    have c12 : (12 : Int) ≤ (tc : Int) := by omega
    by_cases hk : X.take 4 = [116, 107, 116, 98]
    · rw [if_neg (fun q => q hk)] at HO1
      have hse : ((strOfNums (X.take 4)).toList == [116, 107, 116, 98]) = true := by
        have h := str_eq (X.take 4) [116, 107, 116, 98] o4.1 (by decide)
        rw [decide_eq_true hk, str_list [116, 107, 116, 98]] at h
        exact h
      have P8 : Hid (Octs w1 (.slice (some ⟨g, o + 4, none⟩) 4 (tc - 4)) ((X.drop 4).take 4)) := by
        have h := octs_part hfm 4 8 (by omega) (by have := HXL.out; omega)
        rw [if_neg (by omega)] at h
        show Octs _ _ _
        simpa [Addr.add] using h
      have P12 : Hid (Octs w1 (.slice (some ⟨g, o + 8, none⟩) 4 (tc - 8)) ((X.drop 8).take 4)) := by
        have h := octs_part hfm 8 12 (by omega) (by have := HXL.out; omega)
        rw [if_neg (by omega)] at h
        show Octs _ _ _
        simpa [Addr.add] using h
      have N8 : Hid (∀ W : World, Below w1.heap.size w1 W → Calls Tryz.prog 33 #[.slice (some ⟨g, o + 4, none⟩) 4 (tc - 4)] W fun e w' => e = .returned (.int .i64 (numL (X.drop 4) : Nat)) ∧ Below w1.heap.size w1 w') := fun W hW => by
        refine (refNumber_octs _ g (o + 4) (tc - 4) W (P8.out.up hW) (by have := HXL.out; simp; omega)).mono ?_
        rintro e w' ⟨rfl, d, rfl⟩
        exact ⟨by rw [num_take], up_trans hW (up_drewN _ d)⟩
      have N12 : Hid (∀ W : World, Below w1.heap.size w1 W → Calls Tryz.prog 33 #[.slice (some ⟨g, o + 8, none⟩) 4 (tc - 8)] W fun e w' => e = .returned (.int .i64 (numL (X.drop 8) : Nat)) ∧ Below w1.heap.size w1 w') := fun W hW => by
        refine (refNumber_octs _ g (o + 8) (tc - 8) W (P12.out.up hW) (by have := HXL.out; simp; omega)).mono ?_
        rintro e w' ⟨rfl, d, rfl⟩
        exact ⟨by rw [num_take], up_trans hW (up_drewN _ d)⟩
      generalize numL (X.drop 4) = p at *
      generalize numL (X.drop 8) = q at *
      have TD : Hid (∀ W : World, Below w1.heap.size w1 W → Calls Tryz.prog 32 #[.slice a n c, .int .i64 p, .int .i64 q] W fun e w' => ∃ a' n' c', e = .returned (.slice a' n' c') ∧ Hid (n' = (toldX b p q).length) ∧ Hid (OwnR w' w1.heap.size 43 4 (.slice a' n' c') ((toldX b p q).map enRow)) ∧ Below w1.heap.size w1 w') := fun W hW => by
        refine (refToldT_any b a n c p q W HN.out (HV.out.up (up_trans U1.out hW)) hl).mono ?_
        rintro e w' ⟨a', n', c', rfl, h1, h2, h3⟩
        exact ⟨a', n', c', rfl, h1, (OwnR.mono h2.out hW.size), up_trans hW h3.out⟩
      generalize toldX b p q = L at *
      clear o4 P8 P12 hfm hk
      generalize X.take 4 = T4 at *
      go_wp2_with fail
      have u0 : Below w1.heap.size w1 w1 := Below.refl _ _
      have u0d : Below w1.heap.size w1 w1.drew := up_dr (Below.refl _ _)
      go_region_held3 (fun w' => Below w1.heap.size w1 w') (first | with_reducible exact v3 | with_reducible exact v2 | with_reducible exact v1 | with_reducible exact u0d | with_reducible exact u0) (first
        | (go_at_call 33; with_reducible refine (N8.out _ (by assumption)).mono ?_; rintro e w2 ⟨rfl, v1⟩)
        | (go_at_call 33; with_reducible refine (N12.out _ (by assumption)).mono ?_; rintro e w2 ⟨rfl, v2⟩)
        | (go_at_call 32; with_reducible refine (TD.out _ (by assumption)).mono ?_; rintro e w2 ⟨la, ln, lc, rfl, LN, LO, v3⟩))
      all_goals
        have U2 : Hid (Below w.heap.size w w2) := up_trans U1.out v3
        have B2 : Hid (w2.heap[w.heap.size]? = some (.cells #[.slice none 0 0, .int .i64 0, .slice none 0 0] 39)) := blk_up B1.out v3
        have S1 : Hid (w.heap.size < w1.heap.size) := blk_lt B1.out
        have HBU := hid (refBuild_any L _ w2 (Rws.own LO.out))
        clear N8 N12 TD v1 v2 u0 u0d HBR HX1 HBO HXL O1 u1 hse hcv
        by_cases hch : chkT L = 0
        · rw [show buildB L = (tabO L, 0) by unfold buildB; rw [if_pos hch]] at HBU HO1
          have HCH : Hid (chkT L = 0) := hch
          have HTO : Hid (∀ y ∈ tabO L, 0 ≤ y ∧ y ≤ 255) := tab_oct hch
          obtain ⟨hl1, hl2, hord⟩ := chkT_ok hch
          have HKS : Hid (∀ W : World, Below w2.heap.size w2 W → Calls Tryz.prog 24 #[.slice la ln lc] W fun e w' => ∃ a n c, e = .returned (.slice a n c) ∧ Hid (TextsW w' (.slice a n c) (keysT none L)) ∧ Hid (Below W.heap.size W w')) := fun W h => by
            refine (refKeys_any L _ W (EntsR.up (Rws.own LO.out) h) (by omega)).mono ?_
            rintro e w' ⟨a, n, c, rfl, _, h1, h2⟩
            exact ⟨a, n, c, rfl, Rws.own h1.out, h2⟩
          have HKL : Hid (KeyL (keysT none L)) := fun s hs => by
            obtain ⟨x, hx, rfl⟩ := keysT_oct L none s hs
            have hm := ordE_may L none hord x hx
            have := (mayE_le hm).2.1
            exact ⟨nums_octet x.key, by omega⟩
          have HMK : Hid (∀ (v : Value) (W : World), TextsW W v (keysT none L) → Calls Tryz.prog 23 #[v, .int .i64 10] W fun e w' => ∃ a n c x, e = .returned (.tuple #[.agg #[.int .i64 (filT L).1, .slice a n c], .int .i64 x]) ∧ Hid (n = (filT L).2.length) ∧ Hid (OwnB w' W.heap.size (.slice a n c) (filT L).2) ∧ Hid (Below W.heap.size W w')) := fun v W h => by
            refine (refMake_any _ HKL.out 10 v W h).mono ?_
            rintro e w' ⟨a, n, c, rfl, h1, h2, h3⟩
            exact ⟨a, n, c, _, rfl, h1, h2, h3⟩
          clear hl1 hl2 hord hch HKL
          go_wp2_with fail
          refine HBU.out.mono ?_
          rintro e w3 ⟨xa, xn, xc, rfl, XN, XO, b3⟩
          have U3 : Hid (Below w.heap.size w w3) := up_trans U2.out b3.out
          have hk1 := run_convert_octs (tabO L) _ w3 (Octs.own XO.out HTO.out)
          have hk2 := run_convert_octs b _ w3 (HV.out.up U3.out)
          have hs := str_eq (tabO L) b HTO.out HV.out.1
          by_cases h3 : tabO L = b
          · rw [decide_eq_true h3] at hs
            rw [if_pos (by rw [h3])] at HO1
            generalize tabO L = T at *
            clear h3 XO XN HTO HBAD HBU
            go_wp2_with fail
            refine (HKS.out w3 b3.out).mono ?_
            rintro e w4 ⟨ka, kn, kc, rfl, KO, b4⟩
            go_wp2_with fail
            refine (HMK.out _ w4 KO.out).mono ?_
            rintro e w5 ⟨fa, fn, fc, fx, rfl, FN, FO, b5⟩
            generalize filT L = FL at *
            obtain ⟨w6, hw6⟩ : ∃ w6, w6 = w5.alloc (.cells #[.int .i64 FL.1, .slice fa fn fc] 37) := ⟨_, rfl⟩
            have HW6 : Hid (w5.alloc (.cells #[.int .i64 FL.1, .slice fa fn fc] 37) = w6) := hw6.symm
            have B6 : Hid (w6.heap[w5.heap.size]? = some (.cells #[.int .i64 FL.1, .slice fa fn fc] 37)) := by rw [hw6]; exact blk_new _ _
            have U6 : Hid (Below w5.heap.size w5 w6) := by rw [hw6]; exact up_alloc _ _
            have q0 := blk_cell B6.out 0 _ rfl
            have q1 := blk_cell B6.out 1 _ rfl
            have b36 : Below w2.heap.size w2 w6 := up_trans (up_trans (up_trans b3.out b4.out) b5.out) U6.out
            have BR : Hid (w6.heap[w.heap.size]? = some (.cells #[.slice none 0 0, .int .i64 0, .slice none 0 0] 39)) := blk_up B2.out b36
            have y0 := blk_cell BR.out 0 _ rfl
            have y1 := blk_cell BR.out 1 _ rfl
            have y2 := blk_cell BR.out 2 _ rfl
            have f0 := fun k => blk_frozen BR.out k
            have U6' : Hid (Below w.heap.size w w6) := up_trans U2.out b36
            have S4 : Hid (w.heap.size < w4.heap.size) := by have h1 := S1.out; have h2 := v3.size; have h3 := b3.out.size; have h4 := b4.out.size; unfold Hid; omega
            have LO6 : Hid (OwnR w6 w1.heap.size 43 4 (.slice la ln lc) (L.map enRow)) := LO.out.up b36
            have FO6 : Hid (OwnB w6 w4.heap.size (.slice fa fn fc) FL.2) := own_up FO.out U6.out
            clear hw6 b3 b4 b5 KO hk1 hk2 hs LO FO B6 B2 v3
            go_upto_region 13 with fail
            rw [HW6.out]
            go_wp2_with fail
            refine bodyPost_ret (results_tab rfl rfl _ _ rfl (set3_blk BR.out _ _ _)) rfl ?_
            rw [HO1.out]
            refine ⟨la, ln, lc, fa, fn, fc, rfl, ⟨LN.out, ?_⟩, ⟨FN.out, ?_⟩, ?_⟩
            · exact (LO6.out.far (set3_grown w6 w.heap.size _ _ _) (LO6.out.ne_lt S1.out)).mono (Nat.le_of_lt S1.out)
            · exact ownB_far FO6.out (set3_grown w6 w.heap.size _ _ _) S4.out
            · exact U6'.out.grown (set3_grown w6 w.heap.size _ _ _) U6'.out.size (fun k hk => by injection hk with hk; omega)
          · rw [decide_eq_false h3] at hs
            rw [if_neg (fun e => h3 (Prod.mk.inj e).1)] at HO1
            have B3 : Hid (w3.heap[w.heap.size]? = some (.cells #[.slice none 0 0, .int .i64 0, .slice none 0 0] 39)) := blk_up B2.out b3.out
            have y0 := blk_cell B3.out 0 _ rfl
            have y1 := blk_cell B3.out 1 _ rfl
            have y2 := blk_cell B3.out 2 _ rfl
            have f0 := fun k => blk_frozen B3.out k
            go_wp2_with fail
            obtain ⟨r1, r2⟩ := HBAD.out _ 21 B3.out U3.out HO1.out
            refine bodyPost_ret (results_tab rfl rfl _ _ rfl r1) rfl ?_
            exact r2
        · rw [show buildB L = ([], chkT L) by unfold buildB; rw [if_neg hch]] at HBU HO1
          rw [if_neg (fun e => hch (Prod.mk.inj e).2)] at HO1
          generalize chkT L = z at *
          have hz1 : (z == 0) = false := by simp [hch]
          have hz2 : (z != 0) = true := by simp [hch]
          clear HV
          go_wp2_with fail
          refine HBU.out.mono ?_
          rintro e w3 ⟨xa, xn, xc, rfl, XN, XO, b3⟩
          have U3 : Hid (Below w.heap.size w w3) := up_trans U2.out b3.out
          have B3 : Hid (w3.heap[w.heap.size]? = some (.cells #[.slice none 0 0, .int .i64 0, .slice none 0 0] 39)) := blk_up B2.out b3.out
          have y0 := blk_cell B3.out 0 _ rfl
          have y1 := blk_cell B3.out 1 _ rfl
          have y2 := blk_cell B3.out 2 _ rfl
          have f0 := fun k => blk_frozen B3.out k
          go_wp2_with fail
          obtain ⟨r1, r2⟩ := HBAD.out _ 21 B3.out U3.out HO1.out
          refine bodyPost_ret (results_tab rfl rfl _ _ rfl r1) rfl ?_
          exact r2
    · rw [if_pos hk] at HO1
      have y0 := blk_cell B1.out 0 _ rfl
      have y1 := blk_cell B1.out 1 _ rfl
      have y2 := blk_cell B1.out 2 _ rfl
      have f0 := fun k => blk_frozen B1.out k
      have hse : ((strOfNums (X.take 4)).toList == [116, 107, 116, 98]) = false := by
        have h := str_eq (X.take 4) [116, 107, 116, 98] o4.1 (by decide)
        rw [decide_eq_false hk, str_list [116, 107, 116, 98]] at h
        exact h
      go_wp2_with fail
      obtain ⟨r1, r2⟩ := HBAD.out _ 22 B1.out U1.out HO1.out
      refine bodyPost_ret (results_tab rfl rfl _ _ rfl r1) rfl ?_
      exact r2
  · rw [if_pos he] at HO1
    generalize (bareOf (footL b)).2 = q at *
    have hq1 : (q == 0) = false := by simp [he]
    have hq2 : (q != 0) = true := by simp [he]
    clear hn HFT
    go_enter Tryz.func9, Tryz.ntmps9
    go_upto_region 1 with fail
    rw [HW0.out]
    go_wp2_with fail
    refine HBR.out.mono ?_
    rintro e w1 ⟨v1, rfl, O1, u1⟩
    have B1 : Hid (w1.heap[w.heap.size]? = some (.cells #[.slice none 0 0, .int .i64 0, .slice none 0 0] 39)) := blk_up B0.out u1
    have U1 : Hid (Below w.heap.size w w1) := up_trans U0.out u1
    have y0 := blk_cell B1.out 0 _ rfl
    have y1 := blk_cell B1.out 1 _ rfl
    have y2 := blk_cell B1.out 2 _ rfl
    have f0 := fun k => blk_frozen B1.out k
    go_wp2_with fail
    obtain ⟨r1, r2⟩ := HBAD.out _ q B1.out U1.out HO1.out
    refine bodyPost_ret (results_tab rfl rfl _ _ rfl r1) rfl ?_
    exact r2
end Go.Proofs.YtekoniaobmapdaaGreat

/- The walks of the document's ordered, Get and Range of layer 10. -/
namespace Go.Proofs.YtekoniaobmapdaaGreat
open Go.RowKit SumPlain
set_option linter.unusedVariables false
set_option linter.unusedSimpArgs false

end Go.Proofs.YtekoniaobmapdaaGreat

/- The walks of the document's Get and Range of layer 10. -/
namespace Go.Proofs.YtekoniaobmapdaaGreat
open Go.RowKit SumPlain
set_option linter.unusedVariables false
set_option linter.unusedSimpArgs false

/-- What Get answers. -/
def getT (b : List Int) (key : ByteArray) (seq : Int) : En × Bool × Int :=
  if (openB b).2.2 = 0 then ((firstV (openB b).1 key seq).1, (firstV (openB b).1 key seq).2, 0) else (default, false, (openB b).2.2)

set_option maxHeartbeats 2000000 in
set_option maxRecDepth 100000 in
theorem refGetT_any (b : List Int) (a : Option Addr) (n c : Nat) (key : ByteArray) (seq : Int) (w : World) (hn : n = b.length) (hv : Octs w (.slice a n c) b) (hl : n ≤ 140737488351232) :
    Calls Tryz.prog 11 #[.slice a n c, .string key, .int .i64 seq] w fun e w' => e = .returned (.tuple #[enV (getT b key seq).1, .bool (getT b key seq).2.1, .int .i64 (getT b key seq).2.2]) ∧ Hid (Below w.heap.size w w') := by
  obtain ⟨w0, hw0⟩ : ∃ w0, w0 = w.alloc (.cells #[.string ⟨#[]⟩, .int .i64 0, .int .i64 0, .string ⟨#[]⟩] 43) := ⟨_, rfl⟩
  have HW0 : Hid (w.alloc (.cells #[.string ⟨#[]⟩, .int .i64 0, .int .i64 0, .string ⟨#[]⟩] 43) = w0) := hw0.symm
  have B0 : Hid (w0.heap[w.heap.size]? = some (.cells #[.string ⟨#[]⟩, .int .i64 0, .int .i64 0, .string ⟨#[]⟩] 43)) := by rw [hw0]; exact blk_new _ _
  have U0 : Hid (Below w.heap.size w w0) := by rw [hw0]; exact up_alloc _ _
  have HO := hid (refOpen_any b a n c w0 hn (hv.up U0.out) hl)
  clear hv hw0 hn
  by_cases h0 : (openB b).2.2 = 0
  · have HG : Hid (getT b key seq = ((firstV (openB b).1 key seq).1, (firstV (openB b).1 key seq).2, 0)) := by unfold Hid getT; rw [if_pos h0]
    unfold OpE at HO
    rw [h0] at HO
    generalize (openB b).1 = L at *
    generalize (openB b).2.1 = FL at *
    clear h0
    go_enter Tryz.func11, Tryz.ntmps11
    go_upto_region 1 with fail
    rw [HW0.out]
    go_wp2_with fail
    refine HO.out.mono ?_
    rintro e w1 ⟨ea, en, ec, fa, fn, fc, rfl, hE, hF, u1⟩
    obtain ⟨w2, hw2⟩ : ∃ w2, w2 = w1.alloc (.cells #[.slice ea en ec, .int .i64 FL.1, .slice fa fn fc] 39) := ⟨_, rfl⟩
    have HW2 : Hid (w1.alloc (.cells #[.slice ea en ec, .int .i64 FL.1, .slice fa fn fc] 39) = w2) := hw2.symm
    have U2 : Hid (Below w1.heap.size w1 w2) := by rw [hw2]; exact up_alloc _ _
    have B2 : Hid (w2.heap[w1.heap.size]? = some (.cells #[.slice ea en ec, .int .i64 FL.1, .slice fa fn fc] 39)) := by rw [hw2]; exact blk_new _ _
    have B2' : Hid (w2.heap[w.heap.size]? = some (.cells #[.string ⟨#[]⟩, .int .i64 0, .int .i64 0, .string ⟨#[]⟩] 43)) := blk_up (blk_up B0.out u1.out) U2.out
    have HF : Hid (Calls Tryz.prog 36 #[.slice ea en ec, .string key, .int .i64 seq] w2 fun e w' => e = .returned (.tuple #[enV (firstV L key seq).1, .bool (firstV L key seq).2]) ∧ Hid (Below w2.heap.size w2 w')) := by
      obtain ⟨e1, e2⟩ := hE.out
      subst e1
      exact first_any L ea ec key seq w2 (EntsR.up (Rws.own e2) U2.out)
    have q0 := blk_cell B2.out 0 _ rfl
    clear hw2 hE hF
    go_upto_region 2 with fail
    rw [HW2.out]
    go_wp2_with fail
    refine HF.out.mono ?_
    rintro e w3 ⟨rfl, u3⟩
    generalize firstV L key seq = fv at *
    obtain ⟨⟨xk, xs, xd, xv⟩, xb⟩ := fv
    unfold enV at *
    obtain ⟨w4, hw4⟩ : ∃ w4, w4 = w3.alloc (.cells #[.string xk, .int .i64 xs, .int .i64 xd, .string xv] 43) := ⟨_, rfl⟩
    have HW4 : Hid (w3.alloc (.cells #[.string xk, .int .i64 xs, .int .i64 xd, .string xv] 43) = w4) := hw4.symm
    have U4 : Hid (Below w3.heap.size w3 w4) := by rw [hw4]; exact up_alloc _ _
    have B4 : Hid (w4.heap[w3.heap.size]? = some (.cells #[.string xk, .int .i64 xs, .int .i64 xd, .string xv] 43)) := by rw [hw4]; exact blk_new _ _
    have B4' : Hid (w4.heap[w.heap.size]? = some (.cells #[.string ⟨#[]⟩, .int .i64 0, .int .i64 0, .string ⟨#[]⟩] 43)) := blk_up (blk_up B2'.out u3.out) U4.out
    have UU : Hid (Below w.heap.size w w4) := up_trans (up_trans (up_trans (up_trans U0.out u1.out) U2.out) u3.out) U4.out
    have s0 := blk_cell B4.out 0 _ rfl
    have s1 := blk_cell B4.out 1 _ rfl
    have s2 := blk_cell B4.out 2 _ rfl
    have s3 := blk_cell B4.out 3 _ rfl
    have y0 := blk_cell B4'.out 0 _ rfl
    have y1 := blk_cell B4'.out 1 _ rfl
    have y2 := blk_cell B4'.out 2 _ rfl
    have y3 := blk_cell B4'.out 3 _ rfl
    have f0 := fun k => blk_frozen B4'.out k
    clear hw4 q0
    go_upto_region 5 with fail
    rw [HW4.out]
    go_wp2_with fail
    refine bodyPost_ret (results_ent3 rfl _ _ rfl (set4_blk B4'.out _ _ _ _)) rfl ?_
    rw [HG.out]
    refine ⟨rfl, UU.out.grown (set4_grown w4 w.heap.size _ _ _ _) UU.out.size (fun k hk => by injection hk with hk; omega)⟩
  · have HG : Hid (getT b key seq = (default, false, (openB b).2.2)) := by unfold Hid getT; rw [if_neg h0]
    unfold OpE at HO
    generalize (openB b).1 = L at *
    generalize (openB b).2.1 = FL at *
    generalize (openB b).2.2 = z at *
    have hz1 : (z == 0) = false := by simp [h0]
    have hz2 : (z != 0) = true := by simp [h0]
    go_enter Tryz.func11, Tryz.ntmps11
    go_upto_region 1 with fail
    rw [HW0.out]
    go_wp2_with fail
    refine HO.out.mono ?_
    rintro e w1 ⟨ea, en, ec, fa, fn, fc, rfl, hE, hF, u1⟩
    obtain ⟨w2, hw2⟩ : ∃ w2, w2 = w1.alloc (.cells #[.slice ea en ec, .int .i64 FL.1, .slice fa fn fc] 39) := ⟨_, rfl⟩
    have HW2 : Hid (w1.alloc (.cells #[.slice ea en ec, .int .i64 FL.1, .slice fa fn fc] 39) = w2) := hw2.symm
    have U2 : Hid (Below w1.heap.size w1 w2) := by rw [hw2]; exact up_alloc _ _
    have B2' : Hid (w2.heap[w.heap.size]? = some (.cells #[.string ⟨#[]⟩, .int .i64 0, .int .i64 0, .string ⟨#[]⟩] 43)) := blk_up (blk_up B0.out u1.out) U2.out
    have UU : Hid (Below w.heap.size w w2) := up_trans (up_trans U0.out u1.out) U2.out
    have y0 := blk_cell B2'.out 0 _ rfl
    have y1 := blk_cell B2'.out 1 _ rfl
    have y2 := blk_cell B2'.out 2 _ rfl
    have y3 := blk_cell B2'.out 3 _ rfl
    have f0 := fun k => blk_frozen B2'.out k
    clear hw2 hE hF
    go_upto_region 2 with fail
    rw [HW2.out]
    go_wp2_with fail
    refine bodyPost_ret (results_ent3 rfl _ _ rfl (set4_blk B2'.out _ _ _ _)) rfl ?_
    rw [HG.out]
    refine ⟨rfl, UU.out.grown (set4_grown w2 w.heap.size _ _ _ _) UU.out.size (fun k hk => by injection hk with hk; omega)⟩
end Go.Proofs.YtekoniaobmapdaaGreat

/- The walk of the document's Between of layer 10. -/
namespace Go.Proofs.YtekoniaobmapdaaGreat
open Go.RowKit SumPlain
set_option linter.unusedVariables false
set_option linter.unusedSimpArgs false

end Go.Proofs.YtekoniaobmapdaaGreat

/- What is wanted of the program's calls of layer 10, as the laws' walks want it; TableRot walked upon it. -/
namespace Go.Proofs.YtekoniaobmapdaaGreat
open Go.RowKit SumPlain
set_option linter.unusedVariables false
set_option linter.unusedSimpArgs false

/-- What is wanted of the program's functions. -/
structure PgT : Prop where
  build : ∀ (l : List En) (v : Value) (W : World), EntsR W v l → Calls Tryz.prog 6 #[v] W fun e w' => ∃ a n c, e = .returned (.tuple #[.slice a n c, .int .i64 (buildB l).2]) ∧ Hid (n = (buildB l).1.length) ∧ Hid (OwnB w' W.heap.size (.slice a n c) (buildB l).1) ∧ Hid (Below W.heap.size W w')
  opn : ∀ (B : List Int) (a : Option Addr) (n c : Nat) (W : World), n = B.length → Octs W (.slice a n c) B → n ≤ 140737488351232 → Calls Tryz.prog 8 #[.slice a n c] W fun e w' => OpE (openB B) W e w'
  get : ∀ (B : List Int) (a : Option Addr) (n c : Nat) (key : ByteArray) (seq : Int) (W : World), n = B.length → Octs W (.slice a n c) B → n ≤ 140737488351232 → Calls Tryz.prog 10 #[.slice a n c, .string key, .int .i64 seq] W fun e w' => e = .returned (.tuple #[enV (getT B key seq).1, .bool (getT B key seq).2.1, .int .i64 (getT B key seq).2.2]) ∧ Hid (Below W.heap.size W w')
  alive : ∀ (W : World), Calls Tryz.prog 16 #[] W fun e w' => e = .returned (.bool true) ∧ Hid (Below W.heap.size W w')

theorem num_any (x : Int) (W : World) : Calls Tryz.prog 13 #[.int .i64 x] W fun e w' => e = .returned (.int .i64 x) ∧ w' = W := by
  go_enter Tryz.func13, Tryz.ntmps13
  go_wp2
  go_ret
  exact ⟨rfl, rfl⟩

theorem sameB_law (l : List Int) (v1 v2 : Value) (W : World) (h1 : Octs W v1 l) (h2 : Octs W v2 l) : Calls Tryz.prog 12 #[v1, v2] W fun e w' => e = .returned (.bool true) ∧ w' = W := by
  refine (same_any l l _ _ W h1 h2).mono ?_
  rintro e w' ⟨rfl, hb⟩
  exact ⟨by simp, hb⟩

theorem buildB_zero {l : List En} : (buildB l).2 = 0 ↔ chkT l = 0 := by
  unfold buildB
  by_cases h : chkT l = 0
  · rw [if_pos h]; simp [h]
  · rw [if_neg h]
theorem buildB_good {l : List En} (h : chkT l = 0) : buildB l = (tabO l, 0) := by unfold buildB; rw [if_pos h]
theorem buildB_oct (l : List En) : ∀ x ∈ (buildB l).1, 0 ≤ x ∧ x ≤ 255 := by
  unfold buildB
  by_cases h : chkT l = 0
  · rw [if_pos h]; exact tab_oct h
  · rw [if_neg h]; simp
theorem tab_le {l : List En} (h : chkT l = 0) : 20 ≤ (tabO l).length ∧ (tabO l).length ≤ 20000000 := by
  have h1 := at_len h
  have h2 := fr2_len h
  have h3 := (fr3_oct h).2
  have h4 := foot_len (atT l) (toT l) l.length
  have h5 : (fr3 l).length ≤ 8300 := by
    unfold fr3
    rw [frame_len]
    have := octets_len (((encL (filT l).1 (filT l).2).length : Nat) : Int) (by omega) (by omega)
    omega
  have h6 : atT l = (blkT l (manyT l)).length := rfl
  unfold tabO
  simp only [List.length_append]
  omega
end Go.Proofs.YtekoniaobmapdaaGreat

/- The law's of and same of layer 10. -/
namespace Go.Proofs.YtekoniaobmapdaaGreat
open Go.RowKit SumPlain
set_option linter.unusedVariables false
set_option linter.unusedSimpArgs false

set_option maxHeartbeats 4000000 in
set_option maxRecDepth 100000 in
theorem same_law (l : List En) (fb : List Int) (k : Int) (a : Option Addr) (n c : Nat) (fa : Option Addr) (fn fc : Nat) (a' : Option Addr) (n' c' : Nat) (fa' : Option Addr) (fn' fc' : Nat) (w : World) (hv : EntsR w (.slice a n c) l) (hf : Octs w (.slice fa fn fc) fb) (hv' : EntsR w (.slice a' n' c') l) (hf' : Octs w (.slice fa' fn' fc') fb) :
    Calls Tryz.prog 14 #[.agg #[.slice a n c, .int .i64 k, .slice fa fn fc], .agg #[.slice a' n' c', .int .i64 k, .slice fa' fn' fc']] w fun e w' => e = .returned (.bool true) ∧ Hid (Below w.heap.size w w') := by
  obtain ⟨w0, hw0⟩ : ∃ w0, w0 = (w.alloc (.cells #[.slice a n c, .int .i64 k, .slice fa fn fc] 34)).alloc (.cells #[.slice a' n' c', .int .i64 k, .slice fa' fn' fc'] 39) := ⟨_, rfl⟩
  have HW0 : Hid ((w.alloc (.cells #[.slice a n c, .int .i64 k, .slice fa fn fc] 34)).alloc (.cells #[.slice a' n' c', .int .i64 k, .slice fa' fn' fc'] 39) = w0) := hw0.symm
  have B0 : Hid (w0.heap[w.heap.size]? = some (.cells #[.slice a n c, .int .i64 k, .slice fa fn fc] 34)) := by rw [hw0]; exact blk_up (blk_new _ _) (up_alloc _ _)
  have B1 : Hid (w0.heap[w.heap.size + 1]? = some (.cells #[.slice a' n' c', .int .i64 k, .slice fa' fn' fc'] 39)) := by
    rw [hw0]
    have := blk_new (w.alloc (.cells #[.slice a n c, .int .i64 k, .slice fa fn fc] 34)) (.cells #[.slice a' n' c', .int .i64 k, .slice fa' fn' fc'] 39)
    rw [show (w.alloc (.cells #[.slice a n c, .int .i64 k, .slice fa fn fc] 34)).heap.size = w.heap.size + 1 by simp] at this
    exact this
  have U0 : Hid (Below w.heap.size w w0) := by rw [hw0]; exact up_al (up_alloc _ _) _
  have HS1 := hid (sameEnts_self l _ _ w0 (EntsR.up hv U0.out) (EntsR.up hv' U0.out))
  have HS2 : Hid (∀ W : World, Below w0.heap.size w0 W → Calls Tryz.prog 12 #[.slice fa fn fc, .slice fa' fn' fc'] W fun e w' => e = .returned (.bool true) ∧ w' = W) := fun W h => sameB_law fb _ _ W (hf.up (up_trans U0.out h)) (hf'.up (up_trans U0.out h))
  have y0 := blk_cell B0.out 0 _ rfl
  have d0 := blk_cell B1.out 0 _ rfl
  clear hv hf hv' hf' hw0
  go_enter Tryz.func14, Tryz.ntmps14
  go_upto_region 1 with fail
  rw [HW0.out]
  go_wp2_with fail
  refine HS1.out.mono ?_
  rintro e w1 ⟨rfl, d, rfl⟩
  have u1 : Below w0.heap.size w0 (w0.drewN d) := up_drewN _ d
  have q0 := blk_up B0.out u1
  have q1 := blk_up B1.out u1
  have r1 := blk_cell q0 1 _ rfl
  have r2 := blk_cell q0 2 _ rfl
  have s1 := blk_cell q1 1 _ rfl
  have s2 := blk_cell q1 2 _ rfl
  have HS3 := hid (HS2.out _ u1)
  have UU : Hid (Below w.heap.size w (w0.drewN d)) := up_trans U0.out u1
  clear q0 q1 u1 y0 d0
  generalize w0.drewN d = W at *
  go_wp2_with fail
  refine HS3.out.mono ?_
  rintro e w2 ⟨rfl, rfl⟩
  go_wp2
  go_ret
  exact ⟨rfl, UU⟩
end Go.Proofs.YtekoniaobmapdaaGreat

/- The program's common of layer 9. -/
namespace Go.Proofs.YtekoniaobmapdaaGreat
open Go.RowKit SumPlain
set_option linter.unusedVariables false
set_option linter.unusedSimpArgs false

set_option maxHeartbeats 1000000 in
theorem commonP_l (l r : List Int) (hl : ∀ x ∈ l, 0 ≤ x ∧ x ≤ 255) (hr : ∀ x ∈ r, 0 ≤ x ∧ x ≤ 255) (h1 : l.length ≤ 140737488355328) (h2 : r.length ≤ 140737488355328) (w : World) :
    Calls Tryz.prog 84 #[.string (strOfNums l), .string (strOfNums r)] w fun e w' => e = .returned (.int .i64 (comL l r)) ∧ ∃ d, w' = w.drewN d := by
  have s1 := str_size l
  have s2 := str_size r
  go_enter Tryz.func84, Tryz.ntmps84
  go_wp2_with fail
  go_loopw [5] (fun i wr => ∃ k d : Nat, k ≤ l.length ∧ k ≤ r.length ∧ i = .int .i64 k ∧ Hid (comL l r = k + comL (l.drop k) (r.drop k)) ∧ wr = w.drewN d) (fun i _ => l.length - (intOf i).toNat)
  case atStart => exact ⟨0, 0, Nat.zero_le _, Nat.zero_le _, rfl, by simp [Hid], rfl⟩
  case round =>
    obtain ⟨k, d, k1, k2, rfl, HK, hwr⟩ := hrel
    have HW : Hid (wr = w.drewN d) := hwr
    clear hwr
    by_cases c1 : k < l.length
    · have c1' : (k : Int) < (l.length : Int) := by omega
      by_cases c2 : k < r.length
      · have c2' : (k : Int) < (r.length : Int) := by omega
        have j1 : k < (strOfNums l).size := by omega
        have j2 : k < (strOfNums r).size := by omega
        have y1 := str_at l hl k j1
        have y2 := str_at r hr k j2
        have b1 : 0 ≤ l.getD k 0 ∧ l.getD k 0 ≤ 255 := hl _ (by simp [List.getD, c1])
        have b2 : 0 ≤ r.getD k 0 ∧ r.getD k 0 ≤ 255 := hr _ (by simp [List.getD, c2])
        have HD : Hid (comL (l.drop k) (r.drop k) = if l.getD k 0 = r.getD k 0 then comL (l.drop (k + 1)) (r.drop (k + 1)) + 1 else 0) := by
          unfold Hid
          rw [drop_at l k c1, drop_at r k c2]
          rw [comL]
        generalize l.getD k 0 = x at *
        generalize r.getD k 0 = y at *
        by_cases hxy : x = y
        · subst hxy
          go_wp2_with fail
          go_quiet (fail)
          go_wp2_with fail
          refine ⟨⟨k + 1, d + nq, by omega, by omega, by go_num, ?_, ?_⟩, by simp [intOf]; omega⟩
          · unfold Hid
            rw [HK.out, HD.out, if_pos trivial]
            omega
          · rw [HW.out, drewN_more]
        · have hxy' : (x == y) = false := by simp [hxy]
          go_wp2_with fail
          go_quiet (fail)
          go_wp2_with fail
          go_ret
          refine ⟨?_, d + nq, by rw [HW.out, drewN_more]⟩
          rw [HK.out, HD.out, if_neg hxy]
          rfl
      · have c2' : ¬ (k : Int) < (r.length : Int) := by omega
        go_wp2_with fail
        go_quiet (fail)
        go_wp2_with fail
        go_ret
        refine ⟨?_, d + nq, by rw [HW.out, drewN_more]⟩
        rw [HK.out, List.drop_eq_nil_of_le (show r.length ≤ k by omega), comL_nil_right]
        rfl
    · have c1' : ¬ (k : Int) < (l.length : Int) := by omega
      go_wp2_with fail
      go_quiet (fail)
      go_wp2_with fail
      go_ret
      refine ⟨?_, d + nq, by rw [HW.out, drewN_more]⟩
      rw [HK.out, List.drop_eq_nil_of_le (show l.length ≤ k by omega), comL_nil_left]
      rfl
theorem commonP_any (a b : ByteArray) (h1 : a.size ≤ 140737488355328) (h2 : b.size ≤ 140737488355328) (w : World) :
    Calls Tryz.prog 84 #[.string a, .string b] w fun e w' => e = .returned (.int .i64 (comL (nums a) (nums b))) ∧ ∃ d, w' = w.drewN d := by
  have h := commonP_l (nums a) (nums b) (nums_octet a) (nums_octet b) (by rw [nums_length]; exact h1) (by rw [nums_length]; exact h2) w
  rw [str_nums, str_nums] at h
  exact h

theorem comL_symm : ∀ (l r : List Int), comL l r = comL r l
  | [], [] => rfl
  | [], y :: r => by unfold comL; rfl
  | x :: l, [] => by unfold comL; rfl
  | x :: l, y :: r => by
    unfold comL
    rw [comL_symm l r]
    by_cases h : x = y
    · rw [if_pos h, if_pos h.symm]
    · rw [if_neg h, if_neg (fun q => h q.symm)]
end Go.Proofs.YtekoniaobmapdaaGreat
