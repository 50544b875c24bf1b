/- The program's Check: 0 where a list may be, else 9. -/
import Derived.Test.YtfnddbglopoghaaPJoin
namespace Go.Proofs.Ytfnddbglopoghaa
open Go.RowKit
set_option linter.unusedVariables false
set_option linter.unusedSimpArgs false

def errC (s : Sk) : Int := if checkS s = true then 0 else 9
theorem errC_bad {s : Sk} (h : ¬ Good s) : errC s = 9 := by
  unfold errC
  rw [if_neg (fun q => h ((checkS_iff s).1 q))]
theorem errC_good {s : Sk} (h : Good s) : errC s = 0 := by
  unfold errC
  rw [if_pos ((checkS_iff s).2 h)]

set_option maxHeartbeats 1000000 in
set_option maxRecDepth 100000 in
theorem check_any (s : Sk) (es : List (En × Value)) (vN vH : Value) (w : World) (h : SkE w vN vH s es) :
    Calls Try.prog 60 #[.agg #[vN, vH]] w fun e w' => e = .returned (.int .i64 (errC s)) ∧ Hid (Below w.heap.size w w') := by
  obtain ⟨⟨aN, cN, rfl⟩, ⟨aH, cH, rfl⟩⟩ := h.form
  have h63 : (s.nodes.length : Int) ≤ 9223372036854775807 := by
    obtain ⟨_, _, e, h4, h5⟩ := h.nodes.len
    have := h.len
    unfold maxLen at h5
    omega
  have h64 : (s.head.length : Int) ≤ 9223372036854775807 := by
    obtain ⟨_, _, e, h4, h5⟩ := h.head.len
    unfold maxLen at h5
    omega
  have HU0 : Hid (Below w.heap.size w (w.alloc (.cells #[.slice aN s.nodes.length cN, .slice aH s.head.length cH] 79))) := up_alloc _ _
  by_cases g1 : s.nodes.length ≤ 4096
  · have g1' : ¬ (4096 : Int) < (s.nodes.length : Int) := by omega
    by_cases g2 : s.head.length = 8
    · have HV : Hid (SkE w (.slice aN s.nodes.length cN) (.slice aH s.head.length cH) s es) := h
      have HB0 : Hid ((w.alloc (.cells #[.slice aN s.nodes.length cN, .slice aH s.head.length cH] 79)).heap[w.heap.size]? = some (.cells #[.slice aN s.nodes.length cN, .slice aH s.head.length cH] 79)) := blk_new _ _
      have H8 : Hid (s.head.length = 8) := g2
      have g2' : ((s.head.length : Int) != 8) = false := by simp; omega
      generalize hHL : s.head.length = HL at *
      have HHL : Hid (s.head.length = HL) := hHL
      clear h hHL g2
      go_enter Try.func60, Try.ntmps60
      go_wp2_with fail
      go_loopw [18] (fun q wr => ∃ (i : Nat), i ≤ s.nodes.length ∧ q = .int .i64 (i : Int) ∧ Hid (∀ k, k < i → mayE (s.at' k).1 = true ∧ 1 ≤ s.h k ∧ s.h k ≤ 8) ∧ Hid (Below w.heap.size w wr ∧ wr.heap[w.heap.size]? = some (.cells #[.slice aN s.nodes.length cN, .slice aH HL cH] 79))) (fun q _ => s.nodes.length - (intOf q).toNat)
      case atStart => exact ⟨0, by omega, rfl, fun k hk => by omega, HU0, HB0⟩
      case round =>
        clear HU0 HB0
        obtain ⟨i, hi, rfl, HG, HB⟩ := hrel
        have p0 : wr.cell? ⟨w.heap.size, 0, none⟩ = some (.slice aN s.nodes.length cN) := blk_cell HB.out.2 0 _ rfl
        have p1 : wr.cell? ⟨w.heap.size, 1, none⟩ = some (.slice aH HL cH) := blk_cell HB.out.2 1 _ rfl
        by_cases hlt : i < s.nodes.length
        · have hlt' : (i : Int) < (s.nodes.length : Int) := by omega
          obtain ⟨b, off, an, cn, rfl, _, hw, y0, y1, y2, y3, y4⟩ := (HV.out.up HB.out.1).node i hlt
          have HEX : Hid (¬ (mayE (s.at' i).1 = true ∧ 1 ≤ s.h i ∧ s.h i ≤ 8) → errC s = 9) := by
            intro hn
            refine errC_bad (fun g => hn ⟨g.may i hlt, g.high i hlt⟩)
          have HEM : Hid (mayE (s.at' i).1 = true → 1 ≤ s.h i ∧ s.h i ≤ 8 → ∀ k, k < i + 1 → mayE (s.at' k).1 = true ∧ 1 ≤ s.h k ∧ s.h k ≤ 8) := by
            intro h1 h2 k hk
            by_cases e : k = i
            · subst e; exact ⟨h1, h2⟩
            · exact HG.out k (by omega)
          have hk63 : (s.h i : Int) ≤ 9223372036854775807 := by
            have := (HV.out.up HB.out.1).way (i + 1) (by omega)
            obtain ⟨_, _, _, h4, h5⟩ := this.len
            unfold maxLen at h5
            have e : (s.ways (i + 1)).length = s.h i := rfl
            omega
          generalize hy : (s.at' i).1 = y at *
          generalize hhk : s.h i = HK at *
          generalize hER : errC s = ER at *
          have HER : Hid (errC s = ER) := hER
          clear hw hy hhk
          obtain ⟨wz, hwz⟩ : ∃ wz, wz = wr.alloc (.cells #[.string y.key, .int .i64 y.seq, .int .i64 y.kind, .string y.val, .slice an HK cn] 107) := ⟨_, rfl⟩
          have HWZ : Hid (wr.alloc (.cells #[.string y.key, .int .i64 y.seq, .int .i64 y.kind, .string y.val, .slice an HK cn] 107) = wz) := hwz.symm
          have HC := mayStand_any y wz
          unfold enV at HC
          have HU2 : Hid (Below wr.heap.size wr (wz.alloc (enObj y))) := by rw [hwz]; exact up_al (up_alloc _ _) _
          have HB2 : Hid (Below w.heap.size w (wz.alloc (enObj y)) ∧ (wz.alloc (enObj y)).heap[w.heap.size]? = some (.cells #[.slice (some ⟨b, off, none⟩) s.nodes.length cN, .slice aH HL cH] 79)) := ⟨up_trans HB.out.1 HU2.out, blk_up HB.out.2 HU2.out⟩
          have c4 : (wz.alloc (enObj y)).cell? ⟨wr.heap.size, 4, none⟩ = some (.slice an HK cn) := by
            have : wz.heap[wr.heap.size]? = some (.cells #[.string y.key, .int .i64 y.seq, .int .i64 y.kind, .string y.val, .slice an HK cn] 107) := by rw [hwz]; exact blk_new _ _
            exact blk_cell (blk_up this (up_alloc wz (enObj y))) 4 _ rfl
          clear hwz HB HG hER
          go_wp2_with fail
          rw [HWZ.out]
          cases hm : mayE y
          · obtain rfl : ER = 9 := HEX.out (fun q => by rw [hm] at q; cases q.1)
            rw [hm] at HC
            refine HC.mono ?_
            rintro e w' ⟨rfl, rfl⟩
            clear HC
            go_wp2_with fail
            go_ret
            exact ⟨by rw [HER.out]; rfl, HB2.out.1⟩
          · rw [hm] at HC
            refine HC.mono ?_
            rintro e w' ⟨rfl, hw'⟩
            rw [← hw'] at HU2 HB2 c4
            have HR := mayReach_any (HK : Int) w'
            clear HC hw'
            generalize hN7 : wr.heap.size = N7 at *
            by_cases hr : 1 ≤ HK ∧ HK ≤ 8
            · have e : reachP (HK : Int) = true := by simp [reachP]; omega
              rw [e] at HR
              go_wp2_with fail
              refine HR.mono ?_
              rintro e w2 ⟨rfl, rfl⟩
              clear HR
              go_wp2_with fail
              exact ⟨⟨i + 1, by omega, by go_num, HEM.out hm hr, HB2⟩, by simp [intOf]; omega⟩
            · have e : reachP (HK : Int) = false := by simp [reachP]; omega
              rw [e] at HR
              obtain rfl : ER = 9 := HEX.out (fun q => hr q.2)
              go_wp2_with fail
              refine HR.mono ?_
              rintro e w2 ⟨rfl, rfl⟩
              clear HR
              go_wp2_with fail
              go_ret
              exact ⟨by rw [HER.out]; rfl, HB2.out.1⟩
        · obtain rfl : i = s.nodes.length := by omega
          have HC := joined_any s es (.slice aN s.nodes.length cN) (.slice aH s.head.length cH) wr (HV.out.up HB.out.1 |> fun q => by rw [HHL.out]; exact q) (by rw [HHL.out]; exact H8.out) (fun k hk => (HG.out k hk).2)
          rw [HHL.out] at HC
          have HEE : Hid (errC s = if joinF s.nodes s.nodes.length s.head default = true then 0 else 9) := by
            unfold Hid errC checkS
            have a1 : decide (s.nodes.length ≤ 4096) = true := by simp [g1]
            have a2 : decide (s.head.length = 8) = true := by rw [HHL.out, H8.out]; rfl
            have a3 : s.nodes.all (fun nd => mayE nd.1 && checkS.reachP' nd.2.length) = true := by
              rw [List.all_eq_true]
              intro nd hnd
              obtain ⟨k, hk⟩ := List.mem_iff_getElem?.1 hnd
              have hk' := (List.getElem?_eq_some_iff.1 hk).1
              have e : s.at' k = nd := by simp [Sk.at', List.getD, hk]
              have a := HG.out k hk'
              unfold Sk.h at a
              rw [e] at a
              simp [checkS.reachP', a.1, a.2.1, a.2.2]
            rw [a1, a2, a3]
            simp
          generalize hJ : joinF s.nodes s.nodes.length s.head default = J at *
          clear hJ
          go_wp2_with fail
          refine HC.mono ?_
          rintro e w' ⟨rfl, hb⟩
          have HBE : Hid (Below w.heap.size w w') := up_trans HB.out.1 hb.out
          cases J
          · go_wp2_with fail
            go_ret
            exact ⟨by rw [HEE.out]; rfl, HBE⟩
          · go_wp2_with fail
            go_ret
            exact ⟨by rw [HEE.out]; rfl, HBE⟩
    · have e9 : errC s = 9 := errC_bad (fun g => g2 g.head)
      rw [e9]
      have g2' : ((s.head.length : Int) != 8) = true := by simp; omega
      go_enter Try.func60, Try.ntmps60
      go_wp2_with fail
      go_ret
      exact ⟨rfl, HU0⟩
  · have e9 : errC s = 9 := errC_bad (fun g => g1 g.few)
    rw [e9]
    have g1' : (4096 : Int) < (s.nodes.length : Int) := by omega
    go_enter Try.func60, Try.ntmps60
    go_wp2_with fail
    go_ret
    exact ⟨rfl, HU0⟩
end Go.Proofs.Ytfnddbglopoghaa
