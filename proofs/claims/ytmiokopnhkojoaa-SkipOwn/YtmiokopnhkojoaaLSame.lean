/- The law's same: a list and itself. -/
import Derived.Test.YtmiokopnhkojoaaPMem
import Derived.Test.YtmiokopnhkojoaaLUp
import Derived.Deep.CutRange
namespace Go.Proofs.Ytmiokopnhkojoaa
open Go.RowKit
set_option linter.unusedVariables false
set_option linter.unusedSimpArgs false

set_option maxHeartbeats 4000000 in
set_option maxRecDepth 100000 in
theorem same_self (s : Sk) (es es2 : List (En × Value)) (vN vH uN uH : Value) (w : World) (h : SkE w vN vH s es) (h2 : SkE w uN uH s es2) :
    Calls Try.prog 15 #[.agg #[vN, vH], .agg #[uN, uH]] w fun e w' => e = .returned (.bool true) ∧ Hid (Below w.heap.size w w') := by
  obtain ⟨⟨aN, cN, rfl⟩, ⟨aH, cH, rfl⟩⟩ := h.form
  obtain ⟨⟨bN, dN, rfl⟩, ⟨bH, dH, rfl⟩⟩ := h2.form
  have HV : Hid (SkE w (.slice aN s.nodes.length cN) (.slice aH s.head.length cH) s es) := h
  have HV2 : Hid (SkE w (.slice bN s.nodes.length dN) (.slice bH s.head.length dH) s es2) := h2
  have h63 : (s.nodes.length : Int) ≤ 9223372036854775807 := by
    obtain ⟨_, _, e, h4, h5⟩ := h.nodes.len
    have := h.len
    unfold maxLen at h5
    omega
  clear h h2
  generalize hHL : s.head.length = HL at *
  obtain ⟨wa, hwa⟩ : ∃ wa, wa = (w.alloc (.cells #[.slice aN s.nodes.length cN, .slice aH HL cH] 30)).alloc (.cells #[.slice bN s.nodes.length dN, .slice bH HL dH] 25) := ⟨_, rfl⟩
  have HWA : Hid ((w.alloc (.cells #[.slice aN s.nodes.length cN, .slice aH HL cH] 30)).alloc (.cells #[.slice bN s.nodes.length dN, .slice bH HL dH] 25) = wa) := hwa.symm
  have HU : Hid (Below w.heap.size w wa) := by rw [hwa]; exact up_al (up_al (Below.refl _ _) _) _
  have HB : Hid (wa.heap[w.heap.size]? = some (.cells #[.slice aN s.nodes.length cN, .slice aH HL cH] 30) ∧ wa.heap[w.heap.size + 1]? = some (.cells #[.slice bN s.nodes.length dN, .slice bH HL dH] 25)) := by
    refine ⟨by rw [hwa]; exact blk_up (blk_new w _) (up_alloc _ _), ?_⟩
    have := blk_new (w.alloc (.cells #[.slice aN s.nodes.length cN, .slice aH HL cH] 30)) (.cells #[.slice bN s.nodes.length dN, .slice bH HL dH] 25)
    rw [← hwa] at this
    have e : (w.alloc (.cells #[.slice aN s.nodes.length cN, .slice aH HL cH] 30)).heap.size = w.heap.size + 1 := by simp
    rw [e] at this
    exact this
  have HS := sameInts_any s.head s.head (.slice aH HL cH) (.slice bH HL dH) wa (HV.out.up HU.out).head (HV2.out.up HU.out).head
  have hdd : decide (s.head = s.head) = true := by simp
  rw [hdd] at HS
  have p0 : wa.cell? ⟨w.heap.size, 0, none⟩ = some (.slice aN s.nodes.length cN) := blk_cell HB.out.1 0 _ rfl
  have p1 : wa.cell? ⟨w.heap.size, 1, none⟩ = some (.slice aH HL cH) := blk_cell HB.out.1 1 _ rfl
  have q0 : wa.cell? ⟨w.heap.size + 1, 0, none⟩ = some (.slice bN s.nodes.length dN) := blk_cell HB.out.2 0 _ rfl
  have q1 : wa.cell? ⟨w.heap.size + 1, 1, none⟩ = some (.slice bH HL dH) := blk_cell HB.out.2 1 _ rfl
  clear hwa hHL hdd
  go_enter Try.func15, Try.ntmps15
  go_upto_region 1 with fail
  rw [HWA.out]
  go_wp2_with fail
  refine HS.mono ?_
  rintro e w1 ⟨rfl, d, hw1⟩
  rw [hw1]
  clear hw1 w1 HS HWA
  have hnn : ((s.nodes.length : Int) != (s.nodes.length : Int)) = false := by simp
  go_wp2_with fail
  go_loopw [5] (fun q wx => ∃ k : Nat, k ≤ s.nodes.length ∧ q = .int .i64 (k : Int) ∧ Hid (Below wa.heap.size wa wx)) (fun q _ => s.nodes.length - (intOf q).toNat)
  case atStart => exact ⟨0, by omega, rfl, below_drewN (Below.refl _ _) d⟩
  case round =>
    clear p0 p1 q0 q1
    obtain ⟨k, hk, rfl, HK⟩ := hrel
    have p0 : wr.cell? ⟨w.heap.size, 0, none⟩ = some (.slice aN s.nodes.length cN) := blk_cell (blk_up HB.out.1 HK.out) 0 _ rfl
    have q0 : wr.cell? ⟨w.heap.size + 1, 0, none⟩ = some (.slice bN s.nodes.length dN) := blk_cell (blk_up HB.out.2 HK.out) 0 _ rfl
    have UW : Hid (Below w.heap.size w wr) := up_trans HU.out HK.out
    by_cases hkl : k < s.nodes.length
    · have hkl' : (k : Int) < (s.nodes.length : Int) := by omega
      have hk0 : 0 ≤ (k : Int) := by omega
      obtain ⟨b, off, an, cn, rfl, _, hw, y0, y1, y2, y3, y4⟩ := (HV.out.up UW.out).node k hkl
      obtain ⟨b2, off2, an2, cn2, rfl, _, hw2, z0, z1, z2, z3, z4⟩ := (HV2.out.up UW.out).node k hkl
      have HI1 := (HV.out.up UW.out).way (k + 1) (by omega)
      rw [hw] at HI1
      have HI2 := (HV2.out.up UW.out).way (k + 1) (by omega)
      rw [hw2] at HI2
      have HCS : Hid (∀ p : UpW wr, Calls Try.prog 39 #[.slice an (s.h k) cn, .slice an2 (s.h k) cn2] p.val fun e w' => e = .returned (.bool true) ∧ Below p.val.heap.size p.val w') := by
        intro p
        have := sameInts_any (s.at' k).2 (s.at' k).2 _ _ p.val (HI1.up p.up) (HI2.up p.up)
        have hdd : decide ((s.at' k).2 = (s.at' k).2) = true := by simp
        rw [hdd] at this
        refine this.mono ?_
        rintro e w' ⟨rfl, d, rfl⟩
        exact ⟨rfl, below_drewN (Below.refl _ _) d⟩
      clear HI1 HI2 hw hw2
      generalize hh1 : s.h k = h1 at *
      generalize hy : (s.at' k).1 = y at *
      clear hh1 hy
      have P0 := cell_up p0
      have Q0 := cell_up q0
      have Y0 := cell_up y0
      have Y1 := cell_up y1
      have Y2 := cell_up y2
      have Y3 := cell_up y3
      have Y4 := cell_up y4
      have Z0 := cell_up z0
      have Z1 := cell_up z1
      have Z2 := cell_up z2
      have Z3 := cell_up z3
      have Z4 := cell_up z4
      clear y0 y1 y2 y3 y4 z0 z1 z2 z3 z4 q0
      go_upto_region 6 with fail
      refine wp_region_up (by kernel_rfl) (by kernel_rfl) ?_
      repeat (quiet_step ((go_at_call 39; refine calls_up (HCS.out _))))
      refine wpQuiet_nil ?_
      intro _ hw'
      obtain ⟨p, hw''⟩ := hw'
      subst hw''
      have HBP : Hid (Below wa.heap.size wa p.val) := up_trans HK.out p.up
      go_wp2_with fail
      exact ⟨⟨k + 1, by omega, by go_num, HBP⟩, by simp [intOf]; omega⟩
    · have hkl' : ¬ (k : Int) < (s.nodes.length : Int) := by omega
      go_wp2_with fail
      go_ret
      exact ⟨rfl, UW⟩
end Go.Proofs.Ytmiokopnhkojoaa
