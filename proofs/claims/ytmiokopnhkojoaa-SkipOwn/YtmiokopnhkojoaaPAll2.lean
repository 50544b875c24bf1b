/- The program's All. -/
import Derived.Test.YtmiokopnhkojoaaPWalk
namespace Go.Proofs.Ytmiokopnhkojoaa
open Go.RowKit
set_option linter.unusedVariables false
set_option linter.unusedSimpArgs false

/-- What All answers. -/
def allV (s : Sk) : List En := if checkS s = true then s.all else []
set_option maxHeartbeats 4000000 in
set_option maxRecDepth 100000 in
theorem all_any (s : Sk) (es : List (En × Value)) (vN vH : Value) (w : World) (hV : SkE w vN vH s es) :
    Calls Try.prog 13 #[.agg #[vN, vH]] w fun e w' => ∃ a n c, e = .returned (.tuple #[.slice a n c, .int .i64 (errC s)]) ∧ Hid (n = (allV s).length ∧ OwnR w' w.heap.size 27 4 (.slice a n c) ((allV s).map enRow)) ∧ Hid (Below w.heap.size w w') := by
  obtain ⟨⟨aN, cN, rfl⟩, ⟨aH, cH, rfl⟩⟩ := hV.form
  have HV : Hid (SkE w (.slice aN s.nodes.length cN) (.slice aH s.head.length cH) s es) := hV
  clear hV
  obtain ⟨wa, hwa⟩ : ∃ wa, wa = w.alloc (.cells #[.slice aN s.nodes.length cN, .slice aH s.head.length cH] 30) := ⟨_, rfl⟩
  have HWA : Hid (w.alloc (.cells #[.slice aN s.nodes.length cN, .slice aH s.head.length cH] 30) = wa) := hwa.symm
  have HB : Hid (Below w.heap.size w wa ∧ wa.heap[w.heap.size]? = some (.cells #[.slice aN s.nodes.length cN, .slice aH s.head.length cH] 30)) := by rw [hwa]; exact ⟨up_alloc _ _, blk_new _ _⟩
  have p0 : wa.cell? ⟨w.heap.size, 0, none⟩ = some (.slice aN s.nodes.length cN) := blk_cell HB.out.2 0 _ rfl
  have p1 : wa.cell? ⟨w.heap.size, 1, none⟩ = some (.slice aH s.head.length cH) := blk_cell HB.out.2 1 _ rfl
  have HC := check_any s es _ _ wa (HV.out.up HB.out.1)
  clear hwa
  go_enter Try.func13, Try.ntmps13
  go_upto_region 1 with fail
  rw [HWA.out]
  clear HWA
  go_wp2_with fail
  refine HC.mono ?_
  rintro e w1 ⟨rfl, U1⟩
  have HB1 : Hid (Below w.heap.size w w1 ∧ w1.heap[w.heap.size]? = some (.cells #[.slice aN s.nodes.length cN, .slice aH s.head.length cH] 30)) := ⟨up_trans HB.out.1 U1.out, blk_up HB.out.2 U1.out⟩
  clear HC p0 p1 HB U1
  by_cases hG : checkS s = true
  · have e0 : errC s = 0 := by unfold errC; rw [if_pos hG]
    have HE : Hid (errC s = 0) := e0
    have HAL : Hid (allV s = s.all) := by unfold Hid allV; rw [if_pos hG]
    rw [e0]
    have HG : Hid (Good s) := (checkS_iff s).1 hG
    clear hG e0
    obtain ⟨w2, hw2⟩ : ∃ w2, w2 = w1.alloc (.cells #[.slice none 0 0] 76) := ⟨_, rfl⟩
    have HW2 : Hid (w1.alloc (.cells #[.slice none 0 0] 76) = w2) := hw2.symm
    have U2 : Hid (Below w1.heap.size w1 w2) := by rw [hw2]; exact up_alloc _ _
    have HK := walk_any s es (.slice aN s.nodes.length cN) (.slice aH s.head.length cH) w1.heap.size w1.heap.size w2 (fun w' hb => HV.out.up (up_trans HB1.out.1 (U2.out.trans hb))) HG.out ⟨by rw [hw2]; exact blk_new _ _, OwnR.nil _ _ _ _⟩ U2.out.size (Nat.le_refl _)
    have p0 : (w1.alloc (.cells #[.slice none 0 0] 76)).cell? ⟨w.heap.size, 0, none⟩ = some (.slice aN s.nodes.length cN) := by rw [HW2.out]; exact blk_cell (blk_up HB1.out.2 U2.out) 0 _ rfl
    have p1 : (w1.alloc (.cells #[.slice none 0 0] 76)).cell? ⟨w.heap.size, 1, none⟩ = some (.slice aH s.head.length cH) := by rw [HW2.out]; exact blk_cell (blk_up HB1.out.2 U2.out) 1 _ rfl
    clear hw2
    go_wp2_with fail
    rw [HW2.out]
    refine HK.mono ?_
    rintro e w3 ⟨a, c, rfl, HZ⟩
    clear HK p0 p1 HW2
    generalize hT : w1.heap.size = T at *
    have t0 : w3.cell? ⟨T, 0, none⟩ = some (.slice a s.nodes.length c) := blk_cell HZ.out.1.1 0 _ rfl
    have HTL : Hid (w.heap.size ≤ T) := by have := HB1.out.1.size; unfold Hid; omega
    go_wp2_with fail
    go_ret2
    refine ⟨a, s.nodes.length, c, by rw [HE.out]; rfl, ⟨?_, ?_⟩, ?_⟩
    · rw [HAL.out]
      unfold Sk.all Sk.ord
      rw [List.length_map, orderF_len]
    · rw [HAL.out]
      exact HZ.out.1.2.mono HTL.out
    · exact up_trans HB1.out.1 (by rw [hT]; exact U2.out.trans HZ.out.2)
  · have e9 : errC s = 9 := by unfold errC; rw [if_neg hG]
    have HE : Hid (errC s = 9) := e9
    have HAL : Hid (allV s = []) := by unfold Hid allV; rw [if_neg hG]
    rw [e9]
    clear hG e9
    go_wp2_with fail
    go_ret2
    refine ⟨none, 0, 0, by rw [HE.out]; rfl, ⟨by rw [HAL.out]; rfl, ?_⟩, HB1.out.1⟩
    rw [HAL.out]
    exact OwnR.nil _ _ _ _
end Go.Proofs.Ytmiokopnhkojoaa
