/- The program's behind: the first version behind the nodes of those numbers. -/
import Derived.Test.YtfnddbglopoghaaPAhead
namespace Go.Proofs.Ytfnddbglopoghaa
open Go.RowKit
set_option linter.unusedVariables false
set_option linter.unusedSimpArgs false

theorem results_entS {fn : Func} {q r : Nat} (h : fn.results = #[.cell q 47, .tmp r]) (tmps : Array Value) (w : World) {N : Nat} {a b c d : Value} (ht : tmps.getD q undef = .pointer (some ⟨N, 0, none⟩))
    (hc : w.heap[N]? = some (.cells #[a, b, c, d] 47)) : (results fn tmps).run Try.prog w = .ok (.tuple #[.agg #[a, b, c, d], tmps.getD r undef]) w := by
  have c0 := blk_cell hc 0 a rfl
  have c1 := blk_cell hc 1 b rfl
  have c2 := blk_cell hc 2 c rfl
  have c3 := blk_cell hc 3 d rfl
  have ht' : tmps[q]?.getD undef = .pointer (some ⟨N, 0, none⟩) := by simpa using ht
  simp only [results, h]
  simp [ht', go_sem, c0, c1, c2, c3]
theorem set4S_blk {w : World} {N : Nat} {t : TypeId} {x0 x1 x2 x3 : Value} (h : w.heap[N]? = some (.cells #[x0, x1, x2, x3] t)) (a b c d : Value) : ((((w.setCell ⟨N, 0, none⟩ a).setCell ⟨N, 1, none⟩ b).setCell ⟨N, 2, none⟩ c).setCell ⟨N, 3, none⟩ d).heap[N]? = some (.cells #[a, b, c, d] t) := by
  have := blk_set (blk_set (blk_set (blk_set h 0 a) 1 b) 2 c) 3 d
  simpa only [List.setIfInBounds_toArray, List.set_cons_zero, List.set_cons_succ] using this
theorem set4S_grown (w : World) (N : Nat) (a b c d : Value) : w.grownBy ((((w.setCell ⟨N, 0, none⟩ a).setCell ⟨N, 1, none⟩ b).setCell ⟨N, 2, none⟩ c).setCell ⟨N, 3, none⟩ d) (some N) :=
  grown_trans (grown_trans (grown_trans (grown_set w ⟨N, 0, none⟩ a) (grown_set _ ⟨N, 1, none⟩ b)) (grown_set _ ⟨N, 2, none⟩ c)) (grown_set _ ⟨N, 3, none⟩ d)

set_option maxHeartbeats 1000000 in
set_option maxRecDepth 100000 in
theorem behind_none (s : Sk) (es : List (En × Value)) (vN vH : Value) (a0 a1 a2 a3 a4 a5 a6 a7 : Nat) (w : World) (h : SkE w vN vH s es) (ha : a0 ≤ s.nodes.length) (hl : 0 < (s.ways a0).length) (hz : s.way a0 0 = 0) :
    Calls Try.prog 64 #[.agg #[vN, vH], .agg #[natV a0, natV a1, natV a2, natV a3, natV a4, natV a5, natV a6, natV a7]] w fun e w' => e = .returned (.tuple #[enV default, .bool false]) ∧ Hid (Below w.heap.size w w') := by
  obtain ⟨⟨aN, cN, rfl⟩, ⟨aH, cH, rfl⟩⟩ := h.form
  unfold natV
  obtain ⟨wa, hwa⟩ : ∃ wa, wa = ((w.alloc (.cells #[.slice aN s.nodes.length cN, .slice aH s.head.length cH] 79)).alloc (.cells #[.int .i64 (a0 : Int), .int .i64 (a1 : Int), .int .i64 (a2 : Int), .int .i64 (a3 : Int), .int .i64 (a4 : Int), .int .i64 (a5 : Int), .int .i64 (a6 : Int), .int .i64 (a7 : Int)] 96)).alloc (.cells #[.string ⟨#[]⟩, .int .i64 0, .int .i64 0, .string ⟨#[]⟩] 47) := ⟨_, rfl⟩
  have HU : Hid (Below w.heap.size w wa) := by rw [hwa]; exact up_al (up_al (up_al (Below.refl _ _) _) _) _
  have hB := blk4 w (.cells #[.slice aN s.nodes.length cN, .slice aH s.head.length cH] 79) (.cells #[.int .i64 (a0 : Int), .int .i64 (a1 : Int), .int .i64 (a2 : Int), .int .i64 (a3 : Int), .int .i64 (a4 : Int), .int .i64 (a5 : Int), .int .i64 (a6 : Int), .int .i64 (a7 : Int)] 96) (.cells #[.string ⟨#[]⟩, .int .i64 0, .int .i64 0, .string ⟨#[]⟩] 47) (.cells #[.slice aN s.nodes.length cN, .slice aH s.head.length cH] 79)
  rw [← hwa] at hB
  have HW := waysOf_any s es _ _ wa (h.up HU.out) a0 ha
  have U2 := up_alloc wa (.cells #[.slice aN s.nodes.length cN, .slice aH s.head.length cH] 79)
  obtain ⟨bw, ow, cw, ew, cl⟩ := ((h.up HU.out).up U2).wayAt a0 0 ha hl
  have hlw : (0 : Int) < ((s.ways a0).length : Int) := by omega
  rw [ew] at HW
  rw [hz, Nat.add_zero] at cl
  obtain ⟨wb, hwb⟩ : ∃ wb, wb = wa.alloc (.cells #[.slice aN s.nodes.length cN, .slice aH s.head.length cH] 79) := ⟨_, rfl⟩
  rw [← hwb] at HW hB cl U2
  have HWH : Hid (Calls Try.prog 72 #[.agg #[.slice aN s.nodes.length cN, .slice aH s.head.length cH], .int .i64 (a0 : Int)] wa fun e w' => e = .returned (.slice (some ⟨bw, ow, none⟩) (s.ways a0).length cw) ∧ w' = wb) := HW
  have B2 : Hid (wb.heap[w.heap.size + 2]? = some (.cells #[.string ⟨#[]⟩, .int .i64 0, .int .i64 0, .string ⟨#[]⟩] 47)) := hB.2.2.1
  have HU2 : Hid (Below w.heap.size w wb) := up_trans HU.out U2
  have HWA : Hid (((w.alloc (.cells #[.slice aN s.nodes.length cN, .slice aH s.head.length cH] 79)).alloc (.cells #[.int .i64 (a0 : Int), .int .i64 (a1 : Int), .int .i64 (a2 : Int), .int .i64 (a3 : Int), .int .i64 (a4 : Int), .int .i64 (a5 : Int), .int .i64 (a6 : Int), .int .i64 (a7 : Int)] 96)).alloc (.cells #[.string ⟨#[]⟩, .int .i64 0, .int .i64 0, .string ⟨#[]⟩] 47) = wa) := hwa.symm
  have r0 : wb.cell? ⟨w.heap.size + 2, 0, none⟩ = some (.string ⟨#[]⟩) := blk_cell B2.out 0 _ rfl
  have r1 : wb.cell? ⟨w.heap.size + 2, 1, none⟩ = some (.int .i64 0) := blk_cell B2.out 1 _ rfl
  have r2 : wb.cell? ⟨w.heap.size + 2, 2, none⟩ = some (.int .i64 0) := blk_cell B2.out 2 _ rfl
  have r3 : wb.cell? ⟨w.heap.size + 2, 3, none⟩ = some (.string ⟨#[]⟩) := blk_cell B2.out 3 _ rfl
  have f0 := fun k => blk_frozen B2.out k
  generalize hLW : (s.ways a0).length = LW at *
  clear h hB hwa hwb HW ew hl hz hLW U2 HU
  go_enter Try.func64, Try.ntmps64
  go_wp2_with fail
  rw [HWA.out]
  refine HWH.out.mono ?_
  rintro e w' ⟨rfl, rfl⟩
  clear HWH HWA
  go_wp2_with fail
  refine bodyPost_ret (results_entS rfl _ _ rfl (set4S_blk B2.out (.string ⟨#[]⟩) (.int .i64 0) (.int .i64 0) (.string ⟨#[]⟩))) rfl ?_
  exact ⟨rfl, HU2.out.grown (set4S_grown _ (w.heap.size + 2) _ _ _ _) HU2.out.size (fun k2 hk2 => by injection hk2 with hk2; rw [← hk2]; omega)⟩

set_option maxHeartbeats 1000000 in
set_option maxRecDepth 100000 in
theorem behind_some (s : Sk) (es : List (En × Value)) (vN vH : Value) (a0 a1 a2 a3 a4 a5 a6 a7 : Nat) (k : Nat) (w : World) (h : SkE w vN vH s es) (ha : a0 ≤ s.nodes.length) (hl : 0 < (s.ways a0).length) (hz : s.way a0 0 = (k : Int) + 1) (hk : k < s.nodes.length) :
    Calls Try.prog 64 #[.agg #[vN, vH], .agg #[natV a0, natV a1, natV a2, natV a3, natV a4, natV a5, natV a6, natV a7]] w fun e w' => e = .returned (.tuple #[enV (s.at' k).1, .bool true]) ∧ Hid (Below w.heap.size w w') := by
  obtain ⟨⟨aN, cN, rfl⟩, ⟨aH, cH, rfl⟩⟩ := h.form
  unfold natV enV
  have h63 : (s.nodes.length : Int) ≤ 9223372036854775807 := by
    obtain ⟨_, _, e, h4, h5⟩ := h.nodes.len
    have := h.len
    unfold maxLen at h5
    omega
  obtain ⟨wa, hwa⟩ : ∃ wa, wa = ((w.alloc (.cells #[.slice aN s.nodes.length cN, .slice aH s.head.length cH] 79)).alloc (.cells #[.int .i64 (a0 : Int), .int .i64 (a1 : Int), .int .i64 (a2 : Int), .int .i64 (a3 : Int), .int .i64 (a4 : Int), .int .i64 (a5 : Int), .int .i64 (a6 : Int), .int .i64 (a7 : Int)] 96)).alloc (.cells #[.string ⟨#[]⟩, .int .i64 0, .int .i64 0, .string ⟨#[]⟩] 47) := ⟨_, rfl⟩
  have HU : Hid (Below w.heap.size w wa) := by rw [hwa]; exact up_al (up_al (up_al (Below.refl _ _) _) _) _
  have hB := blk4 w (.cells #[.slice aN s.nodes.length cN, .slice aH s.head.length cH] 79) (.cells #[.int .i64 (a0 : Int), .int .i64 (a1 : Int), .int .i64 (a2 : Int), .int .i64 (a3 : Int), .int .i64 (a4 : Int), .int .i64 (a5 : Int), .int .i64 (a6 : Int), .int .i64 (a7 : Int)] 96) (.cells #[.string ⟨#[]⟩, .int .i64 0, .int .i64 0, .string ⟨#[]⟩] 47) (.cells #[.slice aN s.nodes.length cN, .slice aH s.head.length cH] 79)
  rw [← hwa] at hB
  have HW := waysOf_any s es _ _ wa (h.up HU.out) a0 ha
  have U2 := up_alloc wa (.cells #[.slice aN s.nodes.length cN, .slice aH s.head.length cH] 79)
  obtain ⟨bw, ow, cw, ew, cl⟩ := ((h.up HU.out).up U2).wayAt a0 0 ha hl
  have hlw : (0 : Int) < ((s.ways a0).length : Int) := by omega
  rw [ew] at HW
  rw [hz, Nat.add_zero] at cl
  obtain ⟨wb, hwb⟩ : ∃ wb, wb = wa.alloc (.cells #[.slice aN s.nodes.length cN, .slice aH s.head.length cH] 79) := ⟨_, rfl⟩
  obtain ⟨b, off, an, cn, rfl, _, hw, y0, y1, y2, y3, y4⟩ := ((h.up HU.out).up U2).node k hk
  rw [← hwb] at HW hB cl U2 y0 y1 y2 y3
  have HWH : Hid (Calls Try.prog 72 #[.agg #[.slice (some ⟨b, off, none⟩) s.nodes.length cN, .slice aH s.head.length cH], .int .i64 (a0 : Int)] wa fun e w' => e = .returned (.slice (some ⟨bw, ow, none⟩) (s.ways a0).length cw) ∧ w' = wb) := HW
  have B2 : Hid (wb.heap[w.heap.size + 2]? = some (.cells #[.string ⟨#[]⟩, .int .i64 0, .int .i64 0, .string ⟨#[]⟩] 47)) := hB.2.2.1
  have p0 : wb.cell? ⟨w.heap.size, 0, none⟩ = some (.slice (some ⟨b, off, none⟩) s.nodes.length cN) := blk_cell hB.1 0 _ rfl
  have HU2 : Hid (Below w.heap.size w wb) := up_trans HU.out U2
  have HWA : Hid (((w.alloc (.cells #[.slice (some ⟨b, off, none⟩) s.nodes.length cN, .slice aH s.head.length cH] 79)).alloc (.cells #[.int .i64 (a0 : Int), .int .i64 (a1 : Int), .int .i64 (a2 : Int), .int .i64 (a3 : Int), .int .i64 (a4 : Int), .int .i64 (a5 : Int), .int .i64 (a6 : Int), .int .i64 (a7 : Int)] 96)).alloc (.cells #[.string ⟨#[]⟩, .int .i64 0, .int .i64 0, .string ⟨#[]⟩] 47) = wa) := hwa.symm
  have r0 : wb.cell? ⟨w.heap.size + 2, 0, none⟩ = some (.string ⟨#[]⟩) := blk_cell B2.out 0 _ rfl
  have r1 : wb.cell? ⟨w.heap.size + 2, 1, none⟩ = some (.int .i64 0) := blk_cell B2.out 1 _ rfl
  have r2 : wb.cell? ⟨w.heap.size + 2, 2, none⟩ = some (.int .i64 0) := blk_cell B2.out 2 _ rfl
  have r3 : wb.cell? ⟨w.heap.size + 2, 3, none⟩ = some (.string ⟨#[]⟩) := blk_cell B2.out 3 _ rfl
  have f0 := fun k => blk_frozen B2.out k
  have hz2 : ((k : Int) + 1 == 0) = false := by simp; omega
  have hkn' : (k : Int) < (s.nodes.length : Int) := by omega
  have hwr1 : IntKind.i64.wrap (k : Int) = (k : Int) := by simp [IntKind.wrap, IntKind.bits, IntKind.signed]; omega
  have hwr2 : IntKind.i64.wrap ((k : Int) + 1 - 1) = (k : Int) := by rw [Int.add_sub_cancel]; exact hwr1
  have hk0 : 0 ≤ (k : Int) := by omega
  have hk1 : (k : Int) + 1 - 1 = (k : Int) := by omega
  generalize hLW : (s.ways a0).length = LW at *
  generalize hy : (s.at' k).1 = y at *
  clear h hB hwa hwb HW ew hl hz hLW U2 HU hw y4 hy
  go_enter Try.func64, Try.ntmps64
  go_wp2_with fail
  rw [HWA.out]
  refine HWH.out.mono ?_
  rintro e w' ⟨rfl, rfl⟩
  clear HWH HWA
  go_wp2_with fail
  refine bodyPost_ret (results_entS rfl _ _ rfl (set4S_blk B2.out (.string y.key) (.int .i64 y.seq) (.int .i64 y.kind) (.string y.val))) rfl ?_
  exact ⟨rfl, HU2.out.grown (set4S_grown _ (w.heap.size + 2) _ _ _ _) HU2.out.size (fun k2 hk2 => by injection hk2 with hk2; rw [← hk2]; omega)⟩
end Go.Proofs.Ytfnddbglopoghaa
