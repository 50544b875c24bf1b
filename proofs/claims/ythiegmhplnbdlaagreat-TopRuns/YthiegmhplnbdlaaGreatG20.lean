/- Texts of layers 1 to 13, in this order. -/
import Derived.Test.YthiegmhplnbdlaaGreatG19
import Derived.Test.YthiegmhplnbdlaaGreatPWith
import Derived.Test.YthiegmhplnbdlaaGreatG15

namespace Go.Proofs.YthiegmhplnbdlaaGreat
open Go.RowKit
set_option linter.unusedVariables false
set_option linter.unusedSimpArgs false
def errC (s : Sk) : Int := if checkS s = true then 0 else 9
theorem errC_bad {s : Sk} (h : ¬ Good s) : errC s = 9 := by
  unfold errC
  rw [if_neg (fun q => h ((checkS_iff s).1 q))]
theorem errC_good {s : Sk} (h : Good s) : errC s = 0 := by
  unfold errC
  rw [if_pos ((checkS_iff s).2 h)]
set_option maxHeartbeats 1000000 in
set_option maxRecDepth 100000 in
theorem check_any (s : Sk) (es : List (En × Value)) (vN vH : Value) (w : World) (h : SkE w vN vH s es) :
    Calls Tryz.prog 28 #[.agg #[vN, vH]] w fun e w' => e = .returned (.int .i64 (errC s)) ∧ Hid (Below w.heap.size w w') := by
  obtain ⟨⟨aN, cN, rfl⟩, ⟨aH, cH, rfl⟩⟩ := h.form
  have h63 : (s.nodes.length : Int) ≤ 9223372036854775807 := by
    obtain ⟨_, _, e, h4, h5⟩ := h.nodes.len
    have := h.len
    unfold maxLen at h5
    omega
  have h64 : (s.head.length : Int) ≤ 9223372036854775807 := by
    obtain ⟨_, _, e, h4, h5⟩ := h.head.len
    unfold maxLen at h5
    omega
  have HU0 : Hid (Below w.heap.size w (w.alloc (.cells #[.slice aN s.nodes.length cN, .slice aH s.head.length cH] 39))) := up_alloc _ _
  by_cases g1 : s.nodes.length ≤ 4096
  · have g1' : ¬ (4096 : Int) < (s.nodes.length : Int) := by omega
    by_cases g2 : s.head.length = 8
    · have HV : Hid (SkE w (.slice aN s.nodes.length cN) (.slice aH s.head.length cH) s es) := h
      have HB0 : Hid ((w.alloc (.cells #[.slice aN s.nodes.length cN, .slice aH s.head.length cH] 39)).heap[w.heap.size]? = some (.cells #[.slice aN s.nodes.length cN, .slice aH s.head.length cH] 39)) := blk_new _ _
      have H8 : Hid (s.head.length = 8) := g2
      have g2' : ((s.head.length : Int) != 8) = false := by simp; omega
      generalize hHL : s.head.length = HL at *
      have HHL : Hid (s.head.length = HL) := hHL
      clear h hHL g2
      go_enter Tryz.func28, Tryz.ntmps28
      go_wp2_with fail
      go_loopw [18] (fun q wr => ∃ (i : Nat), i ≤ s.nodes.length ∧ q = .int .i64 (i : Int) ∧ Hid (∀ k, k < i → mayE (s.at' k).1 = true ∧ 1 ≤ s.h k ∧ s.h k ≤ 8) ∧ Hid (Below w.heap.size w wr ∧ wr.heap[w.heap.size]? = some (.cells #[.slice aN s.nodes.length cN, .slice aH HL cH] 39))) (fun q _ => s.nodes.length - (intOf q).toNat)
      case atStart => exact ⟨0, by omega, rfl, fun k hk => by omega, HU0, HB0⟩
      case round =>
        clear HU0 HB0
        obtain ⟨i, hi, rfl, HG, HB⟩ := hrel
        have p0 : wr.cell? ⟨w.heap.size, 0, none⟩ = some (.slice aN s.nodes.length cN) := blk_cell HB.out.2 0 _ rfl
        have p1 : wr.cell? ⟨w.heap.size, 1, none⟩ = some (.slice aH HL cH) := blk_cell HB.out.2 1 _ rfl
        by_cases hlt : i < s.nodes.length
        · have hlt' : (i : Int) < (s.nodes.length : Int) := by omega
          obtain ⟨b, off, an, cn, rfl, _, hw, y0, y1, y2, y3, y4⟩ := (HV.out.up HB.out.1).node i hlt
          have HEX : Hid (¬ (mayE (s.at' i).1 = true ∧ 1 ≤ s.h i ∧ s.h i ≤ 8) → errC s = 9) := by
            intro hn
            refine errC_bad (fun g => hn ⟨g.may i hlt, g.high i hlt⟩)
          have HEM : Hid (mayE (s.at' i).1 = true → 1 ≤ s.h i ∧ s.h i ≤ 8 → ∀ k, k < i + 1 → mayE (s.at' k).1 = true ∧ 1 ≤ s.h k ∧ s.h k ≤ 8) := by
            intro h1 h2 k hk
            by_cases e : k = i
            · subst e; exact ⟨h1, h2⟩
            · exact HG.out k (by omega)
          have hk63 : (s.h i : Int) ≤ 9223372036854775807 := by
            have := (HV.out.up HB.out.1).way (i + 1) (by omega)
            obtain ⟨_, _, _, h4, h5⟩ := this.len
            unfold maxLen at h5
            have e : (s.ways (i + 1)).length = s.h i := rfl
            omega
          generalize hy : (s.at' i).1 = y at *
          generalize hhk : s.h i = HK at *
          generalize hER : errC s = ER at *
          have HER : Hid (errC s = ER) := hER
          clear hw hy hhk
          obtain ⟨wz, hwz⟩ : ∃ wz, wz = wr.alloc (.cells #[.string y.key, .int .i64 y.seq, .int .i64 y.kind, .string y.val, .slice an HK cn] 124) := ⟨_, rfl⟩
          have HWZ : Hid (wr.alloc (.cells #[.string y.key, .int .i64 y.seq, .int .i64 y.kind, .string y.val, .slice an HK cn] 124) = wz) := hwz.symm
          have HC := mayStand_any y wz
          unfold enV at HC
          have HU2 : Hid (Below wr.heap.size wr (wz.alloc (enObj y))) := by rw [hwz]; exact up_al (up_alloc _ _) _
          have HB2 : Hid (Below w.heap.size w (wz.alloc (enObj y)) ∧ (wz.alloc (enObj y)).heap[w.heap.size]? = some (.cells #[.slice (some ⟨b, off, none⟩) s.nodes.length cN, .slice aH HL cH] 39)) := ⟨up_trans HB.out.1 HU2.out, blk_up HB.out.2 HU2.out⟩
          have c4 : (wz.alloc (enObj y)).cell? ⟨wr.heap.size, 4, none⟩ = some (.slice an HK cn) := by
            have : wz.heap[wr.heap.size]? = some (.cells #[.string y.key, .int .i64 y.seq, .int .i64 y.kind, .string y.val, .slice an HK cn] 124) := by rw [hwz]; exact blk_new _ _
            exact blk_cell (blk_up this (up_alloc wz (enObj y))) 4 _ rfl
          clear hwz HB HG hER
          go_wp2_with fail
          rw [HWZ.out]
          cases hm : mayE y
          · obtain rfl : ER = 9 := HEX.out (fun q => by rw [hm] at q; cases q.1)
            rw [hm] at HC
            refine HC.mono ?_
            rintro e w' ⟨rfl, rfl⟩
            clear HC
            go_wp2_with fail
            go_ret
            exact ⟨by rw [HER.out]; rfl, HB2.out.1⟩
          · rw [hm] at HC
            refine HC.mono ?_
            rintro e w' ⟨rfl, hw'⟩
            rw [← hw'] at HU2 HB2 c4
            have HR := mayReach_any (HK : Int) w'
            clear HC hw'
            generalize hN7 : wr.heap.size = N7 at *
            by_cases hr : 1 ≤ HK ∧ HK ≤ 8
            · have e : reachP (HK : Int) = true := by simp [reachP]; omega
              rw [e] at HR
              go_wp2_with fail
              refine HR.mono ?_
              rintro e w2 ⟨rfl, rfl⟩
              clear HR
              go_wp2_with fail
              exact ⟨⟨i + 1, by omega, by go_num, HEM.out hm hr, HB2⟩, by simp [intOf]; omega⟩
            · have e : reachP (HK : Int) = false := by simp [reachP]; omega
              rw [e] at HR
              obtain rfl : ER = 9 := HEX.out (fun q => hr q.2)
              go_wp2_with fail
              refine HR.mono ?_
              rintro e w2 ⟨rfl, rfl⟩
              clear HR
              go_wp2_with fail
              go_ret
              exact ⟨by rw [HER.out]; rfl, HB2.out.1⟩
        · obtain rfl : i = s.nodes.length := by omega
          have HC := joined_any s es (.slice aN s.nodes.length cN) (.slice aH s.head.length cH) wr (HV.out.up HB.out.1 |> fun q => by rw [HHL.out]; exact q) (by rw [HHL.out]; exact H8.out) (fun k hk => (HG.out k hk).2)
          rw [HHL.out] at HC
          have HEE : Hid (errC s = if joinF s.nodes s.nodes.length s.head default = true then 0 else 9) := by
            unfold Hid errC checkS
            have a1 : decide (s.nodes.length ≤ 4096) = true := by simp [g1]
            have a2 : decide (s.head.length = 8) = true := by rw [HHL.out, H8.out]; rfl
            have a3 : s.nodes.all (fun nd => mayE nd.1 && checkS.reachP' nd.2.length) = true := by
              rw [List.all_eq_true]
              intro nd hnd
              obtain ⟨k, hk⟩ := List.mem_iff_getElem?.1 hnd
              have hk' := (List.getElem?_eq_some_iff.1 hk).1
              have e : s.at' k = nd := by simp [Sk.at', List.getD, hk]
              have a := HG.out k hk'
              unfold Sk.h at a
              rw [e] at a
              simp [checkS.reachP', a.1, a.2.1, a.2.2]
            rw [a1, a2, a3]
            simp
          generalize hJ : joinF s.nodes s.nodes.length s.head default = J at *
          clear hJ
          go_wp2_with fail
          refine HC.mono ?_
          rintro e w' ⟨rfl, hb⟩
          have HBE : Hid (Below w.heap.size w w') := up_trans HB.out.1 hb.out
          cases J
          · go_wp2_with fail
            go_ret
            exact ⟨by rw [HEE.out]; rfl, HBE⟩
          · go_wp2_with fail
            go_ret
            exact ⟨by rw [HEE.out]; rfl, HBE⟩
    · have e9 : errC s = 9 := errC_bad (fun g => g2 g.head)
      rw [e9]
      have g2' : ((s.head.length : Int) != 8) = true := by simp; omega
      go_enter Tryz.func28, Tryz.ntmps28
      go_wp2_with fail
      go_ret
      exact ⟨rfl, HU0⟩
  · have e9 : errC s = 9 := errC_bad (fun g => g1 g.few)
    rw [e9]
    have g1' : (4096 : Int) < (s.nodes.length : Int) := by omega
    go_enter Tryz.func28, Tryz.ntmps28
    go_wp2_with fail
    go_ret
    exact ⟨rfl, HU0⟩
end Go.Proofs.YthiegmhplnbdlaaGreat

namespace Go.Proofs.YthiegmhplnbdlaaGreat
open Go.RowKit
set_option linter.unusedVariables false
set_option linter.unusedSimpArgs false
theorem noneOwn (w : World) (base : Nat) (t : TypeId) : OwnSk w base t (.slice none 0 0) (.slice none 0 0) ⟨[], []⟩ [] :=
  ⟨rfl, OwnR.nil _ _ _ _, OwnR.nil _ _ _ _, (fun k p hk => by simp at hk), by simp⟩
def PuB (w wr : World) (vN vH : Value) (x : En) : Prop :=
  Below w.heap.size w wr ∧ wr.heap[w.heap.size]? = some (.cells #[vN, vH] 39) ∧ wr.heap[w.heap.size + 1]? = some (enObj x) ∧ wr.heap[w.heap.size + 2]? = some (.cells #[.slice none 0 0, .slice none 0 0] 39)
theorem PuB.up {w wr w' : World} {vN vH : Value} {x : En} (h : PuB w wr vN vH x) (hb : Below wr.heap.size wr w') : PuB w w' vN vH x :=
  ⟨up_trans h.1 hb, blk_up h.2.1 hb, blk_up h.2.2.1 hb, blk_up h.2.2.2 hb⟩
set_option maxHeartbeats 4000000 in
set_option maxRecDepth 100000 in
theorem putS_any (s : Sk) (es : List (En × Value)) (vN vH : Value) (x : En) (h : Int) (w : World) (hV : SkE w vN vH s es) :
    Calls Tryz.prog 11 #[.agg #[vN, vH], enV x, .int .i64 h] w fun e w' => ∃ vN' vH' t es', e = .returned (.tuple #[.agg #[vN', vH'], .int .i64 (errP s x h)]) ∧ Hid (OwnSk w' w.heap.size 124 vN' vH' t es' ∧ IsPut s x h t) ∧ Hid (Below w.heap.size w w') := by
  obtain ⟨⟨aN, cN, rfl⟩, ⟨aH, cH, rfl⟩⟩ := hV.form
  have HV : Hid (SkE w (.slice aN s.nodes.length cN) (.slice aH s.head.length cH) s es) := hV
  clear hV
  unfold enV
  obtain ⟨wa, hwa⟩ : ∃ wa, wa = ((w.alloc (.cells #[.slice aN s.nodes.length cN, .slice aH s.head.length cH] 39)).alloc (enObj x)).alloc (.cells #[.slice none 0 0, .slice none 0 0] 39) := ⟨_, rfl⟩
  have HWA : Hid (((w.alloc (.cells #[.slice aN s.nodes.length cN, .slice aH s.head.length cH] 39)).alloc (enObj x)).alloc (.cells #[.slice none 0 0, .slice none 0 0] 39) = wa) := hwa.symm
  have HB : Hid (PuB w wa (.slice aN s.nodes.length cN) (.slice aH s.head.length cH) x) := by
    have q := blk4 w (.cells #[.slice aN s.nodes.length cN, .slice aH s.head.length cH] 39) (enObj x) (.cells #[.slice none 0 0, .slice none 0 0] 39) (enObj x)
    rw [← hwa] at q
    have u := up_alloc wa (enObj x)
    have hs : wa.heap.size = w.heap.size + 3 := by rw [hwa]; simp
    refine ⟨by rw [hwa]; exact up_al (up_al (up_al (Below.refl _ _) _) _) _, (u.block _ (by omega)).symm.trans q.1, (u.block _ (by omega)).symm.trans q.2.1, (u.block _ (by omega)).symm.trans q.2.2.1⟩
  unfold enObj at HWA
  have p0 : wa.cell? ⟨w.heap.size, 0, none⟩ = some (.slice aN s.nodes.length cN) := blk_cell HB.out.2.1 0 _ rfl
  have p1 : wa.cell? ⟨w.heap.size, 1, none⟩ = some (.slice aH s.head.length cH) := blk_cell HB.out.2.1 1 _ rfl
  have HC := check_any s es _ _ wa (HV.out.up HB.out.1)
  clear hwa
  have HEND : Hid (∀ (wz : World) (code : Int), PuB w wz (.slice aN s.nodes.length cN) (.slice aH s.head.length cH) x → errP s x h = code → code ≠ 0 →
      ((wz.setCell ⟨w.heap.size + 2, 0, none⟩ (.slice none 0 0)).setCell ⟨w.heap.size + 2, 1, none⟩ (.slice none 0 0)).heap[w.heap.size + 2]? = some (.cells #[.slice none 0 0, .slice none 0 0] 39) ∧
      ∃ vN' vH' t es', Ending.returned (.tuple #[.agg #[.slice none 0 0, .slice none 0 0], .int .i64 code]) = .returned (.tuple #[.agg #[vN', vH'], .int .i64 (errP s x h)]) ∧ Hid (OwnSk ((wz.setCell ⟨w.heap.size + 2, 0, none⟩ (.slice none 0 0)).setCell ⟨w.heap.size + 2, 1, none⟩ (.slice none 0 0)) w.heap.size 124 vN' vH' t es' ∧ IsPut s x h t) ∧ Hid (Below w.heap.size w ((wz.setCell ⟨w.heap.size + 2, 0, none⟩ (.slice none 0 0)).setCell ⟨w.heap.size + 2, 1, none⟩ (.slice none 0 0)))) := by
    intro wz code hb he hne
    refine ⟨set2_blk hb.2.2.2 _ _, _, _, ⟨[], []⟩, [], by rw [he], ⟨noneOwn _ _ _, fun _ => rfl, fun q => absurd (he.symm.trans q) hne⟩, ?_⟩
    exact hb.1.grown (set2_grown wz (w.heap.size + 2) _ _) hb.1.size (fun k hk => by injection hk with hk; rw [← hk]; omega)
  have HCELLS : Hid (∀ wz, PuB w wz (.slice aN s.nodes.length cN) (.slice aH s.head.length cH) x → wz.cell? ⟨w.heap.size + 2, 0, none⟩ = some (.slice none 0 0) ∧ wz.cell? ⟨w.heap.size + 2, 1, none⟩ = some (.slice none 0 0) ∧ ∀ k, wz.frozen? ⟨w.heap.size + 2, k, none⟩ = false) := fun wz hb => ⟨blk_cell hb.2.2.2 0 _ rfl, blk_cell hb.2.2.2 1 _ rfl, fun k => blk_frozen hb.2.2.2 k⟩
  have HXC : Hid (∀ wz, PuB w wz (.slice aN s.nodes.length cN) (.slice aH s.head.length cH) x → wz.cell? ⟨w.heap.size + 1, 0, none⟩ = some (.string x.key) ∧ wz.cell? ⟨w.heap.size + 1, 1, none⟩ = some (.int .i64 x.seq) ∧ wz.cell? ⟨w.heap.size + 1, 2, none⟩ = some (.int .i64 x.kind) ∧ wz.cell? ⟨w.heap.size + 1, 3, none⟩ = some (.string x.val)) := fun wz hb => ⟨blk_cell hb.2.2.1 0 _ rfl, blk_cell hb.2.2.1 1 _ rfl, blk_cell hb.2.2.1 2 _ rfl, blk_cell hb.2.2.1 3 _ rfl⟩
  have HPC : Hid (∀ wz, PuB w wz (.slice aN s.nodes.length cN) (.slice aH s.head.length cH) x → wz.cell? ⟨w.heap.size, 0, none⟩ = some (.slice aN s.nodes.length cN) ∧ wz.cell? ⟨w.heap.size, 1, none⟩ = some (.slice aH s.head.length cH)) := fun wz hb => ⟨blk_cell hb.2.1 0 _ rfl, blk_cell hb.2.1 1 _ rfl⟩
  go_enter Tryz.func11, Tryz.ntmps11
  go_upto_region 1 with fail
  rw [HWA.out]
  clear HWA
  go_wp2_with fail
  refine HC.mono ?_
  rintro e w1 ⟨rfl, U1⟩
  have HB1 : Hid (PuB w w1 (.slice aN s.nodes.length cN) (.slice aH s.head.length cH) x) := HB.out.up U1.out
  clear HC p0 p1 HB U1
  by_cases hG : checkS s = true
  · have e0 : errC s = 0 := by unfold errC; rw [if_pos hG]
    rw [e0]
    have HG : Hid (Good s) := (checkS_iff s).1 hG
    have HCK : Hid (checkS s = true) := hG
    clear hG e0
    obtain ⟨x0, x1, x2, x3⟩ := HXC.out _ HB1.out
    have HM := mayStand_any x w1
    unfold enV at HM
    go_wp2_with fail
    refine HM.mono ?_
    rintro e w2 ⟨rfl, hw2⟩
    have HB2 : Hid (PuB w w2 (.slice aN s.nodes.length cN) (.slice aH s.head.length cH) x) := by rw [hw2]; exact HB1.out.up (up_alloc _ _)
    clear HM hw2 x0 x1 x2 x3 HB1
    cases hm : mayE x
    · have HE : Hid (errP s x h = 1) := by
        unfold Hid errP
        rw [HCK.out, hm]
        simp
      obtain ⟨d0, d1, f0⟩ := HCELLS.out _ HB2.out
      go_wp2_with fail
      obtain ⟨hz1, hz2⟩ := HEND.out w2 1 HB2.out HE.out (by decide)
      exact bodyPost_ret (results_st2 (q := 6) (r := 7) rfl (.inl rfl) _ _ rfl hz1) rfl hz2
    · have HR := mayReach_any h w2
      go_wp2_with fail
      refine HR.mono ?_
      rintro e w3 ⟨rfl, hw3⟩
      have HB3 : Hid (PuB w w3 (.slice aN s.nodes.length cN) (.slice aH s.head.length cH) x) := by rw [hw3]; exact HB2.out
      clear HR hw3 HB2
      cases hr : reachP h
      · have HE : Hid (errP s x h = 4) := by
          unfold Hid errP
          rw [HCK.out, hm, hr]
          simp
        obtain ⟨d0, d1, f0⟩ := HCELLS.out _ HB3.out
        go_wp2_with fail
        obtain ⟨hz1, hz2⟩ := HEND.out w3 4 HB3.out HE.out (by decide)
        exact bodyPost_ret (results_st2 (q := 6) (r := 7) rfl (.inl rfl) _ _ rfl hz1) rfl hz2
      · have HH : Hid (1 ≤ h ∧ h ≤ 8) := by have := hr; simp only [reachP, decide_eq_true_eq] at this; exact this
        obtain ⟨hN, rfl⟩ := Int.eq_ofNat_of_zero_le (show 0 ≤ h by have := HH.out; omega)
        have HMY : Hid (mayE x = true) := hm
        have HRC : Hid (reachP (hN : Int) = true) := hr
        obtain ⟨x0, x1, x2, x3⟩ := HXC.out _ HB3.out
        obtain ⟨p0, p1⟩ := HPC.out _ HB3.out
        have HA := ahead_any s es _ _ x s.ord w3 (HV.out.up HB3.out.1) HG.out.head HG.out.link HG.out.srt (fun k hk => (HG.out.mem k).1 hk)
        unfold enV at HA
        clear hm hr
        go_wp2_with fail
        refine HA.mono ?_
        rintro e w4 ⟨L, rfl, HL, U4⟩
        obtain ⟨a0, a1, a2, a3, a4, a5, a6, a7, rfl⟩ := eight L HL.out.1
        have HB4 : Hid (PuB w w4 (.slice aN s.nodes.length cN) (.slice aH s.head.length cH) x) := HB3.out.up U4.out
        have HCUT : Hid (∀ l, l < 8 → CutAt s s.ord x l ([a0, a1, a2, a3, a4, a5, a6, a7].getD l 0)) := HL.out.2
        clear HA x0 x1 x2 x3 p0 p1 HB3 U4 HL
        have eArr : arrC [a0, a1, a2, a3, a4, a5, a6, a7] = #[.int .i64 (a0 : Int), .int .i64 (a1 : Int), .int .i64 (a2 : Int), .int .i64 (a3 : Int), .int .i64 (a4 : Int), .int .i64 (a5 : Int), .int .i64 (a6 : Int), .int .i64 (a7 : Int)] := rfl
        rw [eArr]
        obtain ⟨w5, hw5⟩ : ∃ w5, w5 = w4.alloc (.cells #[.int .i64 (a0 : Int), .int .i64 (a1 : Int), .int .i64 (a2 : Int), .int .i64 (a3 : Int), .int .i64 (a4 : Int), .int .i64 (a5 : Int), .int .i64 (a6 : Int), .int .i64 (a7 : Int)] 89) := ⟨_, rfl⟩
        have HW5 : Hid (w4.alloc (.cells #[.int .i64 (a0 : Int), .int .i64 (a1 : Int), .int .i64 (a2 : Int), .int .i64 (a3 : Int), .int .i64 (a4 : Int), .int .i64 (a5 : Int), .int .i64 (a6 : Int), .int .i64 (a7 : Int)] 89) = w5) := hw5.symm
        have HB5 : Hid (PuB w w5 (.slice aN s.nodes.length cN) (.slice aH s.head.length cH) x ∧ w5.heap[w4.heap.size]? = some (.cells #[.int .i64 (a0 : Int), .int .i64 (a1 : Int), .int .i64 (a2 : Int), .int .i64 (a3 : Int), .int .i64 (a4 : Int), .int .i64 (a5 : Int), .int .i64 (a6 : Int), .int .i64 (a7 : Int)] 89)) := by
          rw [hw5]
          exact ⟨HB4.out.up (up_alloc _ _), blk_new _ _⟩
        obtain ⟨p0, p1⟩ := HPC.out _ HB5.out.1
        have HL5 : Hid (∀ wz : World, wz.heap[w4.heap.size]? = some (.cells #[.int .i64 (a0 : Int), .int .i64 (a1 : Int), .int .i64 (a2 : Int), .int .i64 (a3 : Int), .int .i64 (a4 : Int), .int .i64 (a5 : Int), .int .i64 (a6 : Int), .int .i64 (a7 : Int)] 89) → wz.cell? ⟨w4.heap.size, 0, none⟩ = some (.int .i64 (a0 : Int)) ∧ wz.cell? ⟨w4.heap.size, 1, none⟩ = some (.int .i64 (a1 : Int)) ∧ wz.cell? ⟨w4.heap.size, 2, none⟩ = some (.int .i64 (a2 : Int)) ∧ wz.cell? ⟨w4.heap.size, 3, none⟩ = some (.int .i64 (a3 : Int)) ∧ wz.cell? ⟨w4.heap.size, 4, none⟩ = some (.int .i64 (a4 : Int)) ∧ wz.cell? ⟨w4.heap.size, 5, none⟩ = some (.int .i64 (a5 : Int)) ∧ wz.cell? ⟨w4.heap.size, 6, none⟩ = some (.int .i64 (a6 : Int)) ∧ wz.cell? ⟨w4.heap.size, 7, none⟩ = some (.int .i64 (a7 : Int))) := fun wz hb => ⟨blk_cell hb 0 _ rfl, blk_cell hb 1 _ rfl, blk_cell hb 2 _ rfl, blk_cell hb 3 _ rfl, blk_cell hb 4 _ rfl, blk_cell hb 5 _ rfl, blk_cell hb 6 _ rfl, blk_cell hb 7 _ rfl⟩
        obtain ⟨l0, l1, l2, l3, l4, l5, l6, l7⟩ := HL5.out _ HB5.out.2
        have HC0 : Hid (CutAt s s.ord x 0 a0) := HCUT.out 0 (by omega)
        have HA0 : Hid (a0 ≤ s.nodes.length ∧ 0 < (s.ways a0).length) := ⟨HC0.out.on.bound (fun k hk => (HG.out.mem k).1 hk), HC0.out.on.ways HG.out.head (by omega)⟩
        clear hw5 HB4
        by_cases hz : s.way a0 0 = 0
        · have HNT : Hid (∀ k, k < s.nodes.length → twin (s.at' k).1 x = false) := cut_none HG.out HC0.out hz
          have HBE := behind_none s es _ _ a0 a1 a2 a3 a4 a5 a6 a7 w5 (HV.out.up HB5.out.1.1) HA0.out.1 HA0.out.2 hz
          unfold natV enV at HBE
          clear hz
          have l0' := l0
          rw [← HW5.out] at p0 p1 l0 l1 l2 l3 l4 l5 l6 l7
          go_wp2_with fail
          rw [HW5.out]
          refine HBE.mono ?_
          rintro e w6 ⟨rfl, U6⟩
          have HB6 : Hid (PuB w w6 (.slice aN s.nodes.length cN) (.slice aH s.head.length cH) x ∧ w6.heap[w4.heap.size]? = some (.cells #[.int .i64 (a0 : Int), .int .i64 (a1 : Int), .int .i64 (a2 : Int), .int .i64 (a3 : Int), .int .i64 (a4 : Int), .int .i64 (a5 : Int), .int .i64 (a6 : Int), .int .i64 (a7 : Int)] 89)) := ⟨HB5.out.1.up U6.out, blk_up HB5.out.2 U6.out⟩
          clear HBE p0 p1 l0 l1 l2 l3 l4 l5 l6 l7 l0' HB5 U6
          generalize hN9 : w4.heap.size = N9 at *
          clear hN9
          obtain ⟨wz, hwz⟩ : ∃ wz, wz = w6.alloc (enObj default) := ⟨_, rfl⟩
          have HWZ : Hid (w6.alloc (.cells #[.string (default : En).key, .int .i64 (default : En).seq, .int .i64 (default : En).kind, .string (default : En).val] 50) = wz) := hwz.symm
          have HBz : Hid (PuB w wz (.slice aN s.nodes.length cN) (.slice aH s.head.length cH) x ∧ wz.heap[N9]? = some (.cells #[.int .i64 (a0 : Int), .int .i64 (a1 : Int), .int .i64 (a2 : Int), .int .i64 (a3 : Int), .int .i64 (a4 : Int), .int .i64 (a5 : Int), .int .i64 (a6 : Int), .int .i64 (a7 : Int)] 89)) := by
            rw [hwz]
            exact ⟨HB6.out.1.up (up_alloc _ _), blk_up HB6.out.2 (up_alloc _ _)⟩
          clear hwz HB6
          go_upto_region 12 with fail
          rw [HWZ.out]
          clear HWZ
          have HANY : Hid (s.es.any (fun e => twin e x) = false) := by
            unfold Hid
            cases q : s.es.any (fun e => twin e x)
            · rfl
            · obtain ⟨k2, hk2, ht⟩ := (es_any s x).1 q
              rw [HNT.out k2 hk2] at ht
              cases ht
          by_cases hf : s.nodes.length = 4096
          · have HE : Hid (errP s x (hN : Int) = 51) := by
              unfold Hid errP
              rw [HCK.out, HMY.out, HRC.out, HANY.out, if_pos hf]
              simp
            obtain ⟨d0, d1, f0⟩ := HCELLS.out _ HBz.out.1
            obtain ⟨p0, p1⟩ := HPC.out _ HBz.out.1
            have hf2 : ((s.nodes.length : Int) == 4096) = true := by simp; omega
            go_wp2_with fail
            obtain ⟨hz1, hz2⟩ := HEND.out wz 51 HBz.out.1 HE.out (by decide)
            exact bodyPost_ret (results_st2 (q := 6) (r := 7) rfl (.inl rfl) _ _ rfl hz1) rfl hz2
          · have hf2 : ((s.nodes.length : Int) == 4096) = false := by simp; omega
            have HE : Hid (errP s x (hN : Int) = 0) := by
              unfold Hid errP
              rw [HCK.out, HMY.out, HRC.out, HANY.out, if_neg hf]
              simp
            obtain ⟨p0, p1⟩ := HPC.out _ HBz.out.1
            obtain ⟨x0, x1, x2, x3⟩ := HXC.out _ HBz.out.1
            obtain ⟨l0, l1, l2, l3, l4, l5, l6, l7⟩ := HL5.out _ HBz.out.2
            have HWW := with_any s es _ _ x hN a0 a1 a2 a3 a4 a5 a6 a7 wz (HV.out.up HBz.out.1.1) HG.out (by have := HH.out; omega) (by have := HH.out; omega) HCUT.out (by have := HG.out.few; omega)
            unfold enV natV at HWW
            go_wp2_with fail
            refine HWW.mono ?_
            rintro e wq ⟨vN', vH', es', rfl, OQ, UQ⟩
            clear HWW p0 p1 x0 x1 x2 x3 l0 l1 l2 l3 l4 l5 l6 l7
            have HBq : Hid (PuB w wq (.slice aN s.nodes.length cN) (.slice aH s.head.length cH) x) := HBz.out.1.up UQ.out
            obtain ⟨⟨aM, cM, rfl⟩, ⟨aG, cG, rfl⟩⟩ := OQ.out.read.form
            obtain ⟨d0, d1, f0⟩ := HCELLS.out _ HBq.out
            have HFIN : Hid (OwnSk wq w.heap.size 124 (.slice aM (putF s x (fun l => [a0, a1, a2, a3, a4, a5, a6, a7].getD l 0) hN).nodes.length cM) (.slice aG (putF s x (fun l => [a0, a1, a2, a3, a4, a5, a6, a7].getD l 0) hN).head.length cG) (putF s x (fun l => [a0, a1, a2, a3, a4, a5, a6, a7].getD l 0) hN) es' ∧ IsPut s x (hN : Int) (putF s x (fun l => [a0, a1, a2, a3, a4, a5, a6, a7].getD l 0) hN)) := by
              refine ⟨OQ.out.mono HBz.out.1.1.size, fun q => absurd HE.out q, fun _ => ⟨putF_good HG.out HMY.out (by have := HH.out; omega) (by have := HH.out; omega) HCUT.out (by have := HG.out.few; omega) HNT.out, putF_es _ _ _ _, ?_⟩⟩
              rw [putF_hs]
              simp
            generalize hS2 : putF s x (fun l => [a0, a1, a2, a3, a4, a5, a6, a7].getD l 0) hN = S2 at *
            generalize hn2 : S2.nodes.length = n2 at *
            generalize hm2 : S2.head.length = m2 at *
            clear hS2 hn2 hm2
            go_wp2_with fail
            refine bodyPost_ret (results_st2 (q := 6) (r := 7) rfl (.inl rfl) _ _ rfl (set2_blk HBq.out.2.2.2 (.slice aM n2 cM) (.slice aG m2 cG))) rfl ?_
            have g2 := set2_grown wq (w.heap.size + 2) (.slice aM n2 cM) (.slice aG m2 cG)
            refine ⟨_, _, S2, es', by rw [HE.out]; rfl, ⟨HFIN.out.1.block HBq.out.2.2.2 (by decide) (by decide) g2, HFIN.out.2⟩, ?_⟩
            exact HBq.out.1.grown g2 HBq.out.1.size (fun k hk => by injection hk with hk; rw [← hk]; omega)
        · obtain ⟨k, hkw, hkn, hTw, hNo⟩ := cut_some HG.out HC0.out hz
          have HBE := behind_some s es _ _ a0 a1 a2 a3 a4 a5 a6 a7 k w5 (HV.out.up HB5.out.1.1) HA0.out.1 HA0.out.2 hkw hkn
          have HTW : Hid (beforeE x (s.at' k).1 = false → twin (s.at' k).1 x = true) := hTw
          have HNO : Hid (beforeE x (s.at' k).1 = true → ∀ j, j < s.nodes.length → twin (s.at' j).1 x = false) := hNo
          unfold natV enV at HBE
          clear hz hkw hTw hNo
          rw [← HW5.out] at p0 p1 l0 l1 l2 l3 l4 l5 l6 l7
          have HEX : Hid (∀ code : Nat, twin (s.at' k).1 x = true → errP s x (hN : Int) = 6) := by
            intro _ ht
            have : s.es.any (fun e => twin e x) = true := (es_any s x).2 ⟨k, hkn, ht⟩
            unfold errP
            rw [HCK.out, HMY.out, HRC.out, this]
            simp
          generalize hy : (s.at' k).1 = y at *
          clear hy
          go_wp2_with fail
          rw [HW5.out]
          refine HBE.mono ?_
          rintro e w6 ⟨rfl, U6⟩
          have HB6 : Hid (PuB w w6 (.slice aN s.nodes.length cN) (.slice aH s.head.length cH) x ∧ w6.heap[w4.heap.size]? = some (.cells #[.int .i64 (a0 : Int), .int .i64 (a1 : Int), .int .i64 (a2 : Int), .int .i64 (a3 : Int), .int .i64 (a4 : Int), .int .i64 (a5 : Int), .int .i64 (a6 : Int), .int .i64 (a7 : Int)] 89)) := ⟨HB5.out.1.up U6.out, blk_up HB5.out.2 U6.out⟩
          clear HBE p0 p1 l0 l1 l2 l3 l4 l5 l6 l7 HB5 U6
          generalize hN9 : w4.heap.size = N9 at *
          clear hN9
          obtain ⟨wy, hwy⟩ : ∃ wy, wy = w6.alloc (enObj y) := ⟨_, rfl⟩
          have HWY : Hid (w6.alloc (.cells #[.string y.key, .int .i64 y.seq, .int .i64 y.kind, .string y.val] 50) = wy) := hwy.symm
          have HBy : Hid (PuB w wy (.slice aN s.nodes.length cN) (.slice aH s.head.length cH) x ∧ wy.heap[N9]? = some (.cells #[.int .i64 (a0 : Int), .int .i64 (a1 : Int), .int .i64 (a2 : Int), .int .i64 (a3 : Int), .int .i64 (a4 : Int), .int .i64 (a5 : Int), .int .i64 (a6 : Int), .int .i64 (a7 : Int)] 89)) := by
            rw [hwy]
            exact ⟨HB6.out.1.up (up_alloc _ _), blk_up HB6.out.2 (up_alloc _ _)⟩
          have HYB : Hid (wy.heap[w6.heap.size]? = some (enObj y)) := by rw [hwy]; exact blk_new _ _
          clear hwy HB6
          obtain ⟨x0, x1, x2, x3⟩ := HXC.out _ HBy.out.1
          have y0 : wy.cell? ⟨w6.heap.size, 0, none⟩ = some (.string y.key) := blk_cell HYB.out 0 _ rfl
          have y1 : wy.cell? ⟨w6.heap.size, 1, none⟩ = some (.int .i64 y.seq) := blk_cell HYB.out 1 _ rfl
          have y2 : wy.cell? ⟨w6.heap.size, 2, none⟩ = some (.int .i64 y.kind) := blk_cell HYB.out 2 _ rfl
          have y3 : wy.cell? ⟨w6.heap.size, 3, none⟩ = some (.string y.val) := blk_cell HYB.out 3 _ rfl
          have HBF := before_any x y wy
          unfold enV at HBF
          go_upto_region 10 with fail
          rw [HWY.out]
          generalize hN10 : w6.heap.size = N10 at *
          clear HWY hN10
          go_wp2_with fail
          refine HBF.mono ?_
          rintro e wz ⟨rfl, hwz⟩
          have HBz : Hid (PuB w wz (.slice aN s.nodes.length cN) (.slice aH s.head.length cH) x ∧ wz.heap[N9]? = some (.cells #[.int .i64 (a0 : Int), .int .i64 (a1 : Int), .int .i64 (a2 : Int), .int .i64 (a3 : Int), .int .i64 (a4 : Int), .int .i64 (a5 : Int), .int .i64 (a6 : Int), .int .i64 (a7 : Int)] 89)) := by
            have u : Below wy.heap.size wy wz := by rw [hwz]; exact up_al (up_al (Below.refl _ _) _) _
            exact ⟨HBy.out.1.up u, blk_up HBy.out.2 u⟩
          clear HBF hwz x0 x1 x2 x3 y0 y1 y2 y3 HYB HBy
          cases hb : beforeE x y
          · have HE : Hid (errP s x (hN : Int) = 6) := HEX.out 0 (HTW.out hb)
            obtain ⟨d0, d1, f0⟩ := HCELLS.out _ HBz.out.1
            go_wp2_with fail
            obtain ⟨hz1, hz2⟩ := HEND.out wz 6 HBz.out.1 HE.out (by decide)
            exact bodyPost_ret (results_st2 (q := 6) (r := 7) rfl (.inl rfl) _ _ rfl hz1) rfl hz2
          · have HNT : Hid (∀ j, j < s.nodes.length → twin (s.at' j).1 x = false) := HNO.out hb
            clear hb
            go_upto_region 12 with fail
            have HANY : Hid (s.es.any (fun e => twin e x) = false) := by
              unfold Hid
              cases q : s.es.any (fun e => twin e x)
              · rfl
              · obtain ⟨k2, hk2, ht⟩ := (es_any s x).1 q
                rw [HNT.out k2 hk2] at ht
                cases ht
            by_cases hf : s.nodes.length = 4096
            · have HE : Hid (errP s x (hN : Int) = 51) := by
                unfold Hid errP
                rw [HCK.out, HMY.out, HRC.out, HANY.out, if_pos hf]
                simp
              obtain ⟨d0, d1, f0⟩ := HCELLS.out _ HBz.out.1
              obtain ⟨p0, p1⟩ := HPC.out _ HBz.out.1
              have hf2 : ((s.nodes.length : Int) == 4096) = true := by simp; omega
              go_wp2_with fail
              obtain ⟨hz1, hz2⟩ := HEND.out wz 51 HBz.out.1 HE.out (by decide)
              exact bodyPost_ret (results_st2 (q := 6) (r := 7) rfl (.inl rfl) _ _ rfl hz1) rfl hz2
            · have hf2 : ((s.nodes.length : Int) == 4096) = false := by simp; omega
              have HE : Hid (errP s x (hN : Int) = 0) := by
                unfold Hid errP
                rw [HCK.out, HMY.out, HRC.out, HANY.out, if_neg hf]
                simp
              obtain ⟨p0, p1⟩ := HPC.out _ HBz.out.1
              obtain ⟨x0, x1, x2, x3⟩ := HXC.out _ HBz.out.1
              obtain ⟨l0, l1, l2, l3, l4, l5, l6, l7⟩ := HL5.out _ HBz.out.2
              have HWW := with_any s es _ _ x hN a0 a1 a2 a3 a4 a5 a6 a7 wz (HV.out.up HBz.out.1.1) HG.out (by have := HH.out; omega) (by have := HH.out; omega) HCUT.out (by have := HG.out.few; omega)
              unfold enV natV at HWW
              go_wp2_with fail
              refine HWW.mono ?_
              rintro e wq ⟨vN', vH', es', rfl, OQ, UQ⟩
              clear HWW p0 p1 x0 x1 x2 x3 l0 l1 l2 l3 l4 l5 l6 l7
              have HBq : Hid (PuB w wq (.slice aN s.nodes.length cN) (.slice aH s.head.length cH) x) := HBz.out.1.up UQ.out
              obtain ⟨⟨aM, cM, rfl⟩, ⟨aG, cG, rfl⟩⟩ := OQ.out.read.form
              obtain ⟨d0, d1, f0⟩ := HCELLS.out _ HBq.out
              have HFIN : Hid (OwnSk wq w.heap.size 124 (.slice aM (putF s x (fun l => [a0, a1, a2, a3, a4, a5, a6, a7].getD l 0) hN).nodes.length cM) (.slice aG (putF s x (fun l => [a0, a1, a2, a3, a4, a5, a6, a7].getD l 0) hN).head.length cG) (putF s x (fun l => [a0, a1, a2, a3, a4, a5, a6, a7].getD l 0) hN) es' ∧ IsPut s x (hN : Int) (putF s x (fun l => [a0, a1, a2, a3, a4, a5, a6, a7].getD l 0) hN)) := by
                refine ⟨OQ.out.mono HBz.out.1.1.size, fun q => absurd HE.out q, fun _ => ⟨putF_good HG.out HMY.out (by have := HH.out; omega) (by have := HH.out; omega) HCUT.out (by have := HG.out.few; omega) HNT.out, putF_es _ _ _ _, ?_⟩⟩
                rw [putF_hs]
                simp
              generalize hS2 : putF s x (fun l => [a0, a1, a2, a3, a4, a5, a6, a7].getD l 0) hN = S2 at *
              generalize hn2 : S2.nodes.length = n2 at *
              generalize hm2 : S2.head.length = m2 at *
              clear hS2 hn2 hm2
              go_wp2_with fail
              refine bodyPost_ret (results_st2 (q := 6) (r := 7) rfl (.inl rfl) _ _ rfl (set2_blk HBq.out.2.2.2 (.slice aM n2 cM) (.slice aG m2 cG))) rfl ?_
              have g2 := set2_grown wq (w.heap.size + 2) (.slice aM n2 cM) (.slice aG m2 cG)
              refine ⟨_, _, S2, es', by rw [HE.out]; rfl, ⟨HFIN.out.1.block HBq.out.2.2.2 (by decide) (by decide) g2, HFIN.out.2⟩, ?_⟩
              exact HBq.out.1.grown g2 HBq.out.1.size (fun k hk => by injection hk with hk; rw [← hk]; omega)
  · have e9 : errC s = 9 := by unfold errC; rw [if_neg hG]
    have HE : Hid (errP s x h = 9) := by
      unfold Hid errP
      rw [if_pos (by simpa using hG)]
    rw [e9]
    obtain ⟨d0, d1, f0⟩ := HCELLS.out _ HB1.out
    go_wp2_with fail
    obtain ⟨hz1, hz2⟩ := HEND.out w1 9 HB1.out HE.out (by decide)
    exact bodyPost_ret (results_st2 (q := 6) (r := 7) rfl (.inl rfl) _ _ rfl hz1) rfl hz2
end Go.Proofs.YthiegmhplnbdlaaGreat
