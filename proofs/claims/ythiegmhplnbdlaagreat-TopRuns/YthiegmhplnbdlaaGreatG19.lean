/- Texts of layers 1 to 13, in this order. -/
import Derived.Test.YthiegmhplnbdlaaGreatG17
import Derived.Test.YthiegmhplnbdlaaGreatG14

namespace Go.Proofs.YthiegmhplnbdlaaGreat
open Go.RowKit
set_option linter.unusedVariables false
set_option linter.unusedSimpArgs false
theorem results_entS {fn : Func} {q r : Nat} (h : fn.results = #[.cell q 50, .tmp r]) (tmps : Array Value) (w : World) {N : Nat} {a b c d : Value} (ht : tmps.getD q undef = .pointer (some ⟨N, 0, none⟩))
    (hc : w.heap[N]? = some (.cells #[a, b, c, d] 50)) : (results fn tmps).run Tryz.prog w = .ok (.tuple #[.agg #[a, b, c, d], tmps.getD r undef]) w := by
  have c0 := blk_cell hc 0 a rfl
  have c1 := blk_cell hc 1 b rfl
  have c2 := blk_cell hc 2 c rfl
  have c3 := blk_cell hc 3 d rfl
  have ht' : tmps[q]?.getD undef = .pointer (some ⟨N, 0, none⟩) := by simpa using ht
  simp only [results, h]
  simp [ht', go_sem, c0, c1, c2, c3]
theorem set4S_blk {w : World} {N : Nat} {t : TypeId} {x0 x1 x2 x3 : Value} (h : w.heap[N]? = some (.cells #[x0, x1, x2, x3] t)) (a b c d : Value) : ((((w.setCell ⟨N, 0, none⟩ a).setCell ⟨N, 1, none⟩ b).setCell ⟨N, 2, none⟩ c).setCell ⟨N, 3, none⟩ d).heap[N]? = some (.cells #[a, b, c, d] t) := by
  have := blk_set (blk_set (blk_set (blk_set h 0 a) 1 b) 2 c) 3 d
  simpa only [List.setIfInBounds_toArray, List.set_cons_zero, List.set_cons_succ] using this
theorem set4S_grown (w : World) (N : Nat) (a b c d : Value) : w.grownBy ((((w.setCell ⟨N, 0, none⟩ a).setCell ⟨N, 1, none⟩ b).setCell ⟨N, 2, none⟩ c).setCell ⟨N, 3, none⟩ d) (some N) :=
  grown_trans (grown_trans (grown_trans (grown_set w ⟨N, 0, none⟩ a) (grown_set _ ⟨N, 1, none⟩ b)) (grown_set _ ⟨N, 2, none⟩ c)) (grown_set _ ⟨N, 3, none⟩ d)
set_option maxHeartbeats 1000000 in
set_option maxRecDepth 100000 in
theorem behind_none (s : Sk) (es : List (En × Value)) (vN vH : Value) (a0 a1 a2 a3 a4 a5 a6 a7 : Nat) (w : World) (h : SkE w vN vH s es) (ha : a0 ≤ s.nodes.length) (hl : 0 < (s.ways a0).length) (hz : s.way a0 0 = 0) :
    Calls Tryz.prog 32 #[.agg #[vN, vH], .agg #[natV a0, natV a1, natV a2, natV a3, natV a4, natV a5, natV a6, natV a7]] w fun e w' => e = .returned (.tuple #[enV default, .bool false]) ∧ Hid (Below w.heap.size w w') := by
  obtain ⟨⟨aN, cN, rfl⟩, ⟨aH, cH, rfl⟩⟩ := h.form
  unfold natV
  obtain ⟨wa, hwa⟩ : ∃ wa, wa = ((w.alloc (.cells #[.slice aN s.nodes.length cN, .slice aH s.head.length cH] 39)).alloc (.cells #[.int .i64 (a0 : Int), .int .i64 (a1 : Int), .int .i64 (a2 : Int), .int .i64 (a3 : Int), .int .i64 (a4 : Int), .int .i64 (a5 : Int), .int .i64 (a6 : Int), .int .i64 (a7 : Int)] 89)).alloc (.cells #[.string ⟨#[]⟩, .int .i64 0, .int .i64 0, .string ⟨#[]⟩] 50) := ⟨_, rfl⟩
  have HU : Hid (Below w.heap.size w wa) := by rw [hwa]; exact up_al (up_al (up_al (Below.refl _ _) _) _) _
  have hB := blk4 w (.cells #[.slice aN s.nodes.length cN, .slice aH s.head.length cH] 39) (.cells #[.int .i64 (a0 : Int), .int .i64 (a1 : Int), .int .i64 (a2 : Int), .int .i64 (a3 : Int), .int .i64 (a4 : Int), .int .i64 (a5 : Int), .int .i64 (a6 : Int), .int .i64 (a7 : Int)] 89) (.cells #[.string ⟨#[]⟩, .int .i64 0, .int .i64 0, .string ⟨#[]⟩] 50) (.cells #[.slice aN s.nodes.length cN, .slice aH s.head.length cH] 39)
  rw [← hwa] at hB
  have HW := waysOf_any s es _ _ wa (h.up HU.out) a0 ha
  have U2 := up_alloc wa (.cells #[.slice aN s.nodes.length cN, .slice aH s.head.length cH] 39)
  obtain ⟨bw, ow, cw, ew, cl⟩ := ((h.up HU.out).up U2).wayAt a0 0 ha hl
  have hlw : (0 : Int) < ((s.ways a0).length : Int) := by omega
  rw [ew] at HW
  rw [hz, Nat.add_zero] at cl
  obtain ⟨wb, hwb⟩ : ∃ wb, wb = wa.alloc (.cells #[.slice aN s.nodes.length cN, .slice aH s.head.length cH] 39) := ⟨_, rfl⟩
  rw [← hwb] at HW hB cl U2
  have HWH : Hid (Calls Tryz.prog 56 #[.agg #[.slice aN s.nodes.length cN, .slice aH s.head.length cH], .int .i64 (a0 : Int)] wa fun e w' => e = .returned (.slice (some ⟨bw, ow, none⟩) (s.ways a0).length cw) ∧ w' = wb) := HW
  have B2 : Hid (wb.heap[w.heap.size + 2]? = some (.cells #[.string ⟨#[]⟩, .int .i64 0, .int .i64 0, .string ⟨#[]⟩] 50)) := hB.2.2.1
  have HU2 : Hid (Below w.heap.size w wb) := up_trans HU.out U2
  have HWA : Hid (((w.alloc (.cells #[.slice aN s.nodes.length cN, .slice aH s.head.length cH] 39)).alloc (.cells #[.int .i64 (a0 : Int), .int .i64 (a1 : Int), .int .i64 (a2 : Int), .int .i64 (a3 : Int), .int .i64 (a4 : Int), .int .i64 (a5 : Int), .int .i64 (a6 : Int), .int .i64 (a7 : Int)] 89)).alloc (.cells #[.string ⟨#[]⟩, .int .i64 0, .int .i64 0, .string ⟨#[]⟩] 50) = wa) := hwa.symm
  have r0 : wb.cell? ⟨w.heap.size + 2, 0, none⟩ = some (.string ⟨#[]⟩) := blk_cell B2.out 0 _ rfl
  have r1 : wb.cell? ⟨w.heap.size + 2, 1, none⟩ = some (.int .i64 0) := blk_cell B2.out 1 _ rfl
  have r2 : wb.cell? ⟨w.heap.size + 2, 2, none⟩ = some (.int .i64 0) := blk_cell B2.out 2 _ rfl
  have r3 : wb.cell? ⟨w.heap.size + 2, 3, none⟩ = some (.string ⟨#[]⟩) := blk_cell B2.out 3 _ rfl
  have f0 := fun k => blk_frozen B2.out k
  generalize hLW : (s.ways a0).length = LW at *
  clear h hB hwa hwb HW ew hl hz hLW U2 HU
  go_enter Tryz.func32, Tryz.ntmps32
  go_wp2_with fail
  rw [HWA.out]
  refine HWH.out.mono ?_
  rintro e w' ⟨rfl, rfl⟩
  clear HWH HWA
  go_wp2_with fail
  refine bodyPost_ret (results_entS rfl _ _ rfl (set4S_blk B2.out (.string ⟨#[]⟩) (.int .i64 0) (.int .i64 0) (.string ⟨#[]⟩))) rfl ?_
  exact ⟨rfl, HU2.out.grown (set4S_grown _ (w.heap.size + 2) _ _ _ _) HU2.out.size (fun k2 hk2 => by injection hk2 with hk2; rw [← hk2]; omega)⟩
set_option maxHeartbeats 1000000 in
set_option maxRecDepth 100000 in
theorem behind_some (s : Sk) (es : List (En × Value)) (vN vH : Value) (a0 a1 a2 a3 a4 a5 a6 a7 : Nat) (k : Nat) (w : World) (h : SkE w vN vH s es) (ha : a0 ≤ s.nodes.length) (hl : 0 < (s.ways a0).length) (hz : s.way a0 0 = (k : Int) + 1) (hk : k < s.nodes.length) :
    Calls Tryz.prog 32 #[.agg #[vN, vH], .agg #[natV a0, natV a1, natV a2, natV a3, natV a4, natV a5, natV a6, natV a7]] w fun e w' => e = .returned (.tuple #[enV (s.at' k).1, .bool true]) ∧ Hid (Below w.heap.size w w') := by
  obtain ⟨⟨aN, cN, rfl⟩, ⟨aH, cH, rfl⟩⟩ := h.form
  unfold natV enV
  have h63 : (s.nodes.length : Int) ≤ 9223372036854775807 := by
    obtain ⟨_, _, e, h4, h5⟩ := h.nodes.len
    have := h.len
    unfold maxLen at h5
    omega
  obtain ⟨wa, hwa⟩ : ∃ wa, wa = ((w.alloc (.cells #[.slice aN s.nodes.length cN, .slice aH s.head.length cH] 39)).alloc (.cells #[.int .i64 (a0 : Int), .int .i64 (a1 : Int), .int .i64 (a2 : Int), .int .i64 (a3 : Int), .int .i64 (a4 : Int), .int .i64 (a5 : Int), .int .i64 (a6 : Int), .int .i64 (a7 : Int)] 89)).alloc (.cells #[.string ⟨#[]⟩, .int .i64 0, .int .i64 0, .string ⟨#[]⟩] 50) := ⟨_, rfl⟩
  have HU : Hid (Below w.heap.size w wa) := by rw [hwa]; exact up_al (up_al (up_al (Below.refl _ _) _) _) _
  have hB := blk4 w (.cells #[.slice aN s.nodes.length cN, .slice aH s.head.length cH] 39) (.cells #[.int .i64 (a0 : Int), .int .i64 (a1 : Int), .int .i64 (a2 : Int), .int .i64 (a3 : Int), .int .i64 (a4 : Int), .int .i64 (a5 : Int), .int .i64 (a6 : Int), .int .i64 (a7 : Int)] 89) (.cells #[.string ⟨#[]⟩, .int .i64 0, .int .i64 0, .string ⟨#[]⟩] 50) (.cells #[.slice aN s.nodes.length cN, .slice aH s.head.length cH] 39)
  rw [← hwa] at hB
  have HW := waysOf_any s es _ _ wa (h.up HU.out) a0 ha
  have U2 := up_alloc wa (.cells #[.slice aN s.nodes.length cN, .slice aH s.head.length cH] 39)
  obtain ⟨bw, ow, cw, ew, cl⟩ := ((h.up HU.out).up U2).wayAt a0 0 ha hl
  have hlw : (0 : Int) < ((s.ways a0).length : Int) := by omega
  rw [ew] at HW
  rw [hz, Nat.add_zero] at cl
  obtain ⟨wb, hwb⟩ : ∃ wb, wb = wa.alloc (.cells #[.slice aN s.nodes.length cN, .slice aH s.head.length cH] 39) := ⟨_, rfl⟩
  obtain ⟨b, off, an, cn, rfl, _, hw, y0, y1, y2, y3, y4⟩ := ((h.up HU.out).up U2).node k hk
  rw [← hwb] at HW hB cl U2 y0 y1 y2 y3
  have HWH : Hid (Calls Tryz.prog 56 #[.agg #[.slice (some ⟨b, off, none⟩) s.nodes.length cN, .slice aH s.head.length cH], .int .i64 (a0 : Int)] wa fun e w' => e = .returned (.slice (some ⟨bw, ow, none⟩) (s.ways a0).length cw) ∧ w' = wb) := HW
  have B2 : Hid (wb.heap[w.heap.size + 2]? = some (.cells #[.string ⟨#[]⟩, .int .i64 0, .int .i64 0, .string ⟨#[]⟩] 50)) := hB.2.2.1
  have p0 : wb.cell? ⟨w.heap.size, 0, none⟩ = some (.slice (some ⟨b, off, none⟩) s.nodes.length cN) := blk_cell hB.1 0 _ rfl
  have HU2 : Hid (Below w.heap.size w wb) := up_trans HU.out U2
  have HWA : Hid (((w.alloc (.cells #[.slice (some ⟨b, off, none⟩) s.nodes.length cN, .slice aH s.head.length cH] 39)).alloc (.cells #[.int .i64 (a0 : Int), .int .i64 (a1 : Int), .int .i64 (a2 : Int), .int .i64 (a3 : Int), .int .i64 (a4 : Int), .int .i64 (a5 : Int), .int .i64 (a6 : Int), .int .i64 (a7 : Int)] 89)).alloc (.cells #[.string ⟨#[]⟩, .int .i64 0, .int .i64 0, .string ⟨#[]⟩] 50) = wa) := hwa.symm
  have r0 : wb.cell? ⟨w.heap.size + 2, 0, none⟩ = some (.string ⟨#[]⟩) := blk_cell B2.out 0 _ rfl
  have r1 : wb.cell? ⟨w.heap.size + 2, 1, none⟩ = some (.int .i64 0) := blk_cell B2.out 1 _ rfl
  have r2 : wb.cell? ⟨w.heap.size + 2, 2, none⟩ = some (.int .i64 0) := blk_cell B2.out 2 _ rfl
  have r3 : wb.cell? ⟨w.heap.size + 2, 3, none⟩ = some (.string ⟨#[]⟩) := blk_cell B2.out 3 _ rfl
  have f0 := fun k => blk_frozen B2.out k
  have hz2 : ((k : Int) + 1 == 0) = false := by simp; omega
  have hkn' : (k : Int) < (s.nodes.length : Int) := by omega
  have hwr1 : IntKind.i64.wrap (k : Int) = (k : Int) := by simp [IntKind.wrap, IntKind.bits, IntKind.signed]; omega
  have hwr2 : IntKind.i64.wrap ((k : Int) + 1 - 1) = (k : Int) := by rw [Int.add_sub_cancel]; exact hwr1
  have hk0 : 0 ≤ (k : Int) := by omega
  have hk1 : (k : Int) + 1 - 1 = (k : Int) := by omega
  generalize hLW : (s.ways a0).length = LW at *
  generalize hy : (s.at' k).1 = y at *
  clear h hB hwa hwb HW ew hl hz hLW U2 HU hw y4 hy
  go_enter Tryz.func32, Tryz.ntmps32
  go_wp2_with fail
  rw [HWA.out]
  refine HWH.out.mono ?_
  rintro e w' ⟨rfl, rfl⟩
  clear HWH HWA
  go_wp2_with fail
  refine bodyPost_ret (results_entS rfl _ _ rfl (set4S_blk B2.out (.string y.key) (.int .i64 y.seq) (.int .i64 y.kind) (.string y.val))) rfl ?_
  exact ⟨rfl, HU2.out.grown (set4S_grown _ (w.heap.size + 2) _ _ _ _) HU2.out.size (fun k2 hk2 => by injection hk2 with hk2; rw [← hk2]; omega)⟩
end Go.Proofs.YthiegmhplnbdlaaGreat

namespace Go.Proofs.YthiegmhplnbdlaaGreat
open Go.RowKit
set_option linter.unusedVariables false
set_option linter.unusedSimpArgs false
theorem eightI (L : List Int) (h : L.length = 8) : ∃ a b c d e f g i, L = [a, b, c, d, e, f, g, i] := by
  match L, h with
  | [a, b, c, d, e, f, g, i], _ => exact ⟨a, b, c, d, e, f, g, i, rfl⟩
def JnA (w wr : World) (vN vH : Value) (W : List Int) : Prop :=
  Below w.heap.size w wr ∧ wr.heap[w.heap.size]? = some (.cells #[vN, vH] 39) ∧ wr.heap[w.heap.size + 1]? = some (.cells (arrI W) 89)
theorem JnA.up {w wr w' : World} {vN vH : Value} {W : List Int} (h : JnA w wr vN vH W) (hb : Below wr.heap.size wr w') : JnA w w' vN vH W :=
  ⟨up_trans h.1 hb, blk_up h.2.1 hb, blk_up h.2.2 hb⟩
theorem JnA.set {w wr : World} {vN vH : Value} {W : List Int} (h : JnA w wr vN vH W) (l : Nat) (a : Int) : JnA w (wr.setCell ⟨w.heap.size + 1, l, none⟩ (.int .i64 a)) vN vH (W.set l a) := by
  refine ⟨?_, ?_, ?_⟩
  · exact h.1.grown (grown_set wr _ _) h.1.size (fun k hk => by injection hk with hk; rw [← hk]; simp)
  · exact blk_at2 (C := 0) h.2.1 (by simp)
  · have := blk_set h.2.2 l (.int .i64 a)
    rw [arrI_set] at this
    exact this
def JnB (w wr : World) (vN vH : Value) (W : List Int) (N5 : Nat) (last : En) : Prop := JnA w wr vN vH W ∧ w.heap.size + 1 < N5 ∧ wr.heap[N5]? = some (enObj last)
theorem JnB.up {w wr w' : World} {vN vH : Value} {W : List Int} {N5 : Nat} {last : En} (h : JnB w wr vN vH W N5 last) (hb : Below wr.heap.size wr w') : JnB w w' vN vH W N5 last :=
  ⟨h.1.up hb, h.2.1, blk_up h.2.2 hb⟩
theorem JnB.set {w wr : World} {vN vH : Value} {W : List Int} {N5 : Nat} {last : En} (h : JnB w wr vN vH W N5 last) (l : Nat) (a : Int) : JnB w (wr.setCell ⟨w.heap.size + 1, l, none⟩ (.int .i64 a)) vN vH (W.set l a) N5 last :=
  ⟨h.1.set l a, h.2.1, blk_at2 (C := 0) h.2.2 (by simp only; have := h.2.1; omega)⟩
theorem JnB.last {w wr : World} {vN vH : Value} {W : List Int} {N5 : Nat} {last : En} (h : JnB w wr vN vH W N5 last) (y : En) : JnB w ((((wr.setCell ⟨N5, 0, none⟩ (.string y.key)).setCell ⟨N5, 1, none⟩ (.int .i64 y.seq)).setCell ⟨N5, 2, none⟩ (.int .i64 y.kind)).setCell ⟨N5, 3, none⟩ (.string y.val)) vN vH W N5 y := by
  have g := set4_grown' wr N5 (.string y.key) (.int .i64 y.seq) (.int .i64 y.kind) (.string y.val)
  have hn := h.2.1
  refine ⟨⟨?_, ?_, ?_⟩, h.2.1, ?_⟩
  · exact h.1.1.grown g h.1.1.size (fun k hk => by injection hk with hk; omega)
  · exact blk_grown h.1.2.1 g (by simp; omega)
  · exact blk_grown h.1.2.2 g (by simp; omega)
  · have h3 : wr.heap[N5]? = some (.cells #[.string last.key, .int .i64 last.seq, .int .i64 last.kind, .string last.val] 50) := h.2.2
    have := blk_set (blk_set (blk_set (blk_set h3 0 (.string y.key)) 1 (.int .i64 y.seq)) 2 (.int .i64 y.kind)) 3 (.string y.val)
    simp only [List.setIfInBounds_toArray, List.set_cons_zero, List.set_cons_succ] at this
    exact this
where set4_grown' (w : World) (N : Nat) (a b c d : Value) : w.grownBy ((((w.setCell ⟨N, 0, none⟩ a).setCell ⟨N, 1, none⟩ b).setCell ⟨N, 2, none⟩ c).setCell ⟨N, 3, none⟩ d) (some N) :=
  grown_trans (grown_trans (grown_trans (grown_set w ⟨N, 0, none⟩ a) (grown_set _ ⟨N, 1, none⟩ b)) (grown_set _ ⟨N, 2, none⟩ c)) (grown_set _ ⟨N, 3, none⟩ d)
set_option maxHeartbeats 1000000 in
set_option maxRecDepth 100000 in
theorem joined_any (s : Sk) (es : List (En × Value)) (vN vH : Value) (w : World) (h : SkE w vN vH s es) (h8 : s.head.length = 8) (hh : ∀ k, k < s.nodes.length → 1 ≤ s.h k ∧ s.h k ≤ 8) :
    Calls Tryz.prog 55 #[.agg #[vN, vH]] w fun e w' => e = .returned (.bool (joinF s.nodes s.nodes.length s.head default)) ∧ Hid (Below w.heap.size w w') := by
  obtain ⟨⟨aN, cN, rfl⟩, ⟨aH, cH, rfl⟩⟩ := h.form
  have h63 : (s.nodes.length : Int) ≤ 9223372036854775807 := by
    obtain ⟨_, _, e, h4, h5⟩ := h.nodes.len
    have := h.len
    unfold maxLen at h5
    omega
  generalize hJ : joinF s.nodes s.nodes.length s.head default = J
  have HJ : Hid (joinF s.nodes s.nodes.length s.head default = J) := hJ
  have HV : Hid (SkE w (.slice aN s.nodes.length cN) (.slice aH s.head.length cH) s es) := h
  have H8 : Hid (s.head.length = 8) := h8
  have HH : Hid (∀ k, k < s.nodes.length → 1 ≤ s.h k ∧ s.h k ≤ 8) := hh
  have hB0 : Hid (JnA w ((w.alloc (.cells #[.slice aN s.nodes.length cN, .slice aH s.head.length cH] 39)).alloc (.cells #[.int .i64 0, .int .i64 0, .int .i64 0, .int .i64 0, .int .i64 0, .int .i64 0, .int .i64 0, .int .i64 0] 89)) (.slice aN s.nodes.length cN) (.slice aH s.head.length cH) [0, 0, 0, 0, 0, 0, 0, 0]) := by
    refine ⟨up_al (up_al (Below.refl _ _) _) _, blk_up (blk_new w _) (up_alloc _ _), ?_⟩
    have := blk_new (w.alloc (.cells #[.slice aN s.nodes.length cN, .slice aH s.head.length cH] 39)) (.cells #[.int .i64 0, .int .i64 0, .int .i64 0, .int .i64 0, .int .i64 0, .int .i64 0, .int .i64 0, .int .i64 0] 89)
    have e : (w.alloc (.cells #[.slice aN s.nodes.length cN, .slice aH s.head.length cH] 39)).heap.size = w.heap.size + 1 := by simp
    rw [e] at this
    exact this
  clear h h8 hh hJ
  go_enter Tryz.func55, Tryz.ntmps55
  go_wp2_with fail
  go_loopw [10] (fun q wr => ∃ (i : Nat) (W : List Int), i ≤ 8 ∧ q = .int .i64 (i : Int) ∧ Hid (W.length = 8 ∧ ∀ l, l < i → W.getD l 0 = s.head.getD l 0) ∧ Hid (JnA w wr (.slice aN s.nodes.length cN) (.slice aH s.head.length cH) W)) (fun q _ => 8 - (intOf q).toNat)
  case atStart => exact ⟨0, _, by omega, rfl, ⟨rfl, fun l hl => by omega⟩, hB0⟩
  case round =>
    clear hB0
    obtain ⟨i, W, hi, rfl, HW, HB⟩ := hrel
    have p1 : wr.cell? ⟨w.heap.size, 1, none⟩ = some (.slice aH s.head.length cH) := blk_cell HB.out.2.1 1 _ rfl
    have p0 : wr.cell? ⟨w.heap.size, 0, none⟩ = some (.slice aN s.nodes.length cN) := blk_cell HB.out.2.1 0 _ rfl
    by_cases hlt : i < 8
    · have hlt' : (i : Int) < 8 := by omega
      obtain ⟨b, off, cap, n, e, hn, hc⟩ := (HV.out.up HB.out.1).head.at i (by rw [H8.out]; exact hlt)
      simp only [Value.slice.injEq] at e
      obtain ⟨rfl, _, rfl⟩ := e
      have hl2 : (i : Int) < (s.head.length : Int) := by rw [H8.out]; omega
      have HN : Hid (s.head.getD i 0 = n) := by unfold Hid; simp [List.getD, hn]
      have q0 := blk_cell HB.out.2.2 i _ (arrI_get W i (by rw [HW.out.1]; exact hlt))
      have fz := blk_frozen HB.out.2.2 i
      clear hn
      go_wp2_with fail
      refine ⟨⟨i + 1, W.set i n, by omega, by go_num, ⟨by rw [List.length_set]; exact HW.out.1, fun l hl => ?_⟩, HB.out.set i n⟩, by simp [intOf]; omega⟩
      rw [getD_set]
      by_cases e : l = i
      · subst e
        rw [if_pos ⟨rfl, by rw [HW.out.1]; exact hlt⟩, HN.out]
      · rw [if_neg (fun r => e r.1)]
        exact HW.out.2 l (by omega)
    · have hlt' : ¬ (i : Int) < 8 := by omega
      have eW : W = s.head := ints_ext (by rw [HW.out.1, H8.out]) (fun l hl => HW.out.2 l (by rw [HW.out.1] at hl; omega))
      subst eW
      have HB5 : Hid (JnB w (wr.alloc (.cells #[.string ⟨#[]⟩, .int .i64 0, .int .i64 0, .string ⟨#[]⟩] 50)) (.slice aN s.nodes.length cN) (.slice aH s.head.length cH) s.head wr.heap.size default) := by
        refine ⟨HB.out.up (up_alloc _ _), ?_, blk_new _ _⟩
        exact blk_lt HB.out.2.2
      have P0 : (wr.alloc (.cells #[.string ⟨#[]⟩, .int .i64 0, .int .i64 0, .string ⟨#[]⟩] 50)).cell? ⟨w.heap.size, 0, none⟩ = some (.slice aN s.nodes.length cN) := blk_cell HB5.out.1.2.1 0 _ rfl
      generalize hN5 : wr.heap.size = N5 at *
      clear HB HW p0 p1
      go_wp2_with fail
      go_loopw [24] (fun q wx => ∃ (i : Nat) (W : List Int) (last : En), i ≤ s.nodes.length ∧ q = .int .i64 (i : Int) ∧ Hid (W.length = 8 ∧ joinF s.nodes (s.nodes.length - i) W last = J) ∧ Hid (JnB w wx (.slice aN s.nodes.length cN) (.slice aH s.head.length cH) W N5 last)) (fun q _ => s.nodes.length - (intOf q).toNat)
      case atStart => exact ⟨0, s.head, default, by omega, rfl, ⟨H8.out, HJ.out⟩, HB5⟩
      case round =>
        clear HB5 P0
        clear hlt hlt' hi
        obtain ⟨i, W, last, hi, rfl, HW, HB⟩ := hrel
        have p0 : wr.cell? ⟨w.heap.size, 0, none⟩ = some (.slice aN s.nodes.length cN) := blk_cell HB.out.1.2.1 0 _ rfl
        have q0 := blk_cell HB.out.1.2.2 0 _ (arrI_get W 0 (by rw [HW.out.1]; omega))
        by_cases hlt : i < s.nodes.length
        · have hlt' : (i : Int) < (s.nodes.length : Int) := by omega
          have HJ1 : Hid (joinF s.nodes (s.nodes.length - i - 1 + 1) W last = J) := by
            have := HW.out.2
            rw [show s.nodes.length - i = s.nodes.length - i - 1 + 1 by omega] at this
            exact this
          have HW8 : Hid (W.length = 8) := HW.out.1
          clear HW
          generalize hnum : W.getD 0 0 = num at *
          have HNUM : Hid (W.getD 0 0 = num) := hnum
          clear hnum
          by_cases g1 : num < 1
          · have hJ : J = false := by
              have := HJ1.out
              unfold joinF at this
              rw [HNUM.out, if_pos (.inl g1)] at this
              exact this.symm
            subst hJ
            go_wp2_with fail
            go_ret
            exact ⟨rfl, HB.out.1.1⟩
          · by_cases g2 : (s.nodes.length : Int) < num
            · have hJ : J = false := by
                have := HJ1.out
                unfold joinF at this
                rw [HNUM.out, if_pos (.inr g2)] at this
                exact this.symm
              subst hJ
              go_wp2_with fail
              go_ret
              exact ⟨rfl, HB.out.1.1⟩
            · obtain ⟨k, rfl⟩ : ∃ k : Nat, num = (k : Int) + 1 := ⟨(num - 1).toNat, by omega⟩
              have hk : k < s.nodes.length := by omega
              have hkn' : (k : Int) < (s.nodes.length : Int) := by omega
              have hwr1 : IntKind.i64.wrap (k : Int) = (k : Int) := by simp [IntKind.wrap, IntKind.bits, IntKind.signed]; omega
              have hwr2 : IntKind.i64.wrap ((k : Int) + 1 - 1) = (k : Int) := by rw [Int.add_sub_cancel]; exact hwr1
              have hk0 : 0 ≤ (k : Int) := by omega
              have hk1 : (k : Int) + 1 - 1 = (k : Int) := by omega
              have HJ2 : Hid ((if beforeE last (s.at' k).1 = true then match stepW (s.at' k).2 0 ((k : Int) + 1) W with | none => false | some W' => joinF s.nodes (s.nodes.length - i - 1) W' (s.at' k).1 else false) = J) := by
                have := HJ1.out
                unfold joinF at this
                rw [HNUM.out, if_neg (by omega), show ((k : Int) + 1 - 1).toNat = k by omega] at this
                exact this
              obtain ⟨b, off, an, cn, rfl, _, hw, y0, y1, y2, y3, y4⟩ := (HV.out.up HB.out.1.1).node k hk
              have HHK : Hid (1 ≤ s.h k ∧ s.h k ≤ 8) := HH.out k hk
              have HNX : Hid (∀ w', Below w.heap.size w w' → IntsR w' (.slice an (s.h k) cn) (s.at' k).2) := by
                intro w' hb
                have := (HV.out.up hb).way (k + 1) (by omega)
                rw [hw] at this
                exact this
              have HHL : Hid ((s.at' k).2.length = s.h k) := rfl
              generalize hy : (s.at' k).1 = y at *
              generalize hnx : (s.at' k).2 = NX at *
              generalize hhk : s.h k = HK at *
              clear HJ1 hw hy hnx hhk
              obtain ⟨wz, hwz⟩ : ∃ wz, wz = wr.alloc (.cells #[.string y.key, .int .i64 y.seq, .int .i64 y.kind, .string y.val, .slice an HK cn] 124) := ⟨_, rfl⟩
              have HU : Hid (Below wr.heap.size wr wz) := by rw [hwz]; exact up_alloc _ _
              have HBz : Hid (JnB w wz (.slice (some ⟨b, off, none⟩) s.nodes.length cN) (.slice aH s.head.length cH) W N5 last ∧ wz.heap[wr.heap.size]? = some (.cells #[.string y.key, .int .i64 y.seq, .int .i64 y.kind, .string y.val, .slice an HK cn] 124) ∧ N5 < wr.heap.size) := by
                refine ⟨HB.out.up HU.out, by rw [hwz]; exact blk_new _ _, blk_lt HB.out.2.2⟩
              have HWZ : Hid (wr.alloc (.cells #[.string y.key, .int .i64 y.seq, .int .i64 y.kind, .string y.val, .slice an HK cn] 124) = wz) := hwz.symm
              have l0 : (wr.alloc (.cells #[.string y.key, .int .i64 y.seq, .int .i64 y.kind, .string y.val, .slice an HK cn] 124)).cell? ⟨N5, 0, none⟩ = some (.string last.key) := by rw [HWZ.out]; exact blk_cell HBz.out.1.2.2 0 _ rfl
              have l1 : (wr.alloc (.cells #[.string y.key, .int .i64 y.seq, .int .i64 y.kind, .string y.val, .slice an HK cn] 124)).cell? ⟨N5, 1, none⟩ = some (.int .i64 last.seq) := by rw [HWZ.out]; exact blk_cell HBz.out.1.2.2 1 _ rfl
              have l2 : (wr.alloc (.cells #[.string y.key, .int .i64 y.seq, .int .i64 y.kind, .string y.val, .slice an HK cn] 124)).cell? ⟨N5, 2, none⟩ = some (.int .i64 last.kind) := by rw [HWZ.out]; exact blk_cell HBz.out.1.2.2 2 _ rfl
              have l3 : (wr.alloc (.cells #[.string y.key, .int .i64 y.seq, .int .i64 y.kind, .string y.val, .slice an HK cn] 124)).cell? ⟨N5, 3, none⟩ = some (.string last.val) := by rw [HWZ.out]; exact blk_cell HBz.out.1.2.2 3 _ rfl
              clear hwz HB
              generalize hN7 : wr.heap.size = N7 at *
              have n0 : (wr.alloc (.cells #[.string y.key, .int .i64 y.seq, .int .i64 y.kind, .string y.val, .slice an HK cn] 124)).cell? ⟨N7, 0, none⟩ = some (.string y.key) := by rw [HWZ.out]; exact blk_cell HBz.out.2.1 0 _ rfl
              have n1 : (wr.alloc (.cells #[.string y.key, .int .i64 y.seq, .int .i64 y.kind, .string y.val, .slice an HK cn] 124)).cell? ⟨N7, 1, none⟩ = some (.int .i64 y.seq) := by rw [HWZ.out]; exact blk_cell HBz.out.2.1 1 _ rfl
              have n2 : (wr.alloc (.cells #[.string y.key, .int .i64 y.seq, .int .i64 y.kind, .string y.val, .slice an HK cn] 124)).cell? ⟨N7, 2, none⟩ = some (.int .i64 y.kind) := by rw [HWZ.out]; exact blk_cell HBz.out.2.1 2 _ rfl
              have n3 : (wr.alloc (.cells #[.string y.key, .int .i64 y.seq, .int .i64 y.kind, .string y.val, .slice an HK cn] 124)).cell? ⟨N7, 3, none⟩ = some (.string y.val) := by rw [HWZ.out]; exact blk_cell HBz.out.2.1 3 _ rfl
              have HC := before_any last y wz
              unfold enV at HC
              go_wp2_with fail
              rw [HWZ.out]
              cases hb : beforeE last y
              · have hJ : J = false := by
                  have := HJ2.out
                  rw [hb] at this
                  exact this.symm
                subst hJ
                rw [hb] at HC
                refine HC.mono ?_
                rintro e w' ⟨rfl, rfl⟩
                have U3 : Hid (Below w.heap.size w ((wz.alloc (enObj last)).alloc (enObj y))) := up_al (up_al HBz.out.1.1.1 _) _
                unfold enObj at U3
                clear HC
                go_wp2_with fail
                go_ret
                exact ⟨rfl, U3⟩
              · rw [hb] at HC
                have HJ3 : Hid ((match stepW NX 0 ((k : Int) + 1) W with | none => false | some W' => joinF s.nodes (s.nodes.length - i - 1) W' y) = J) := by
                  have := HJ2.out
                  rw [hb, if_pos rfl] at this
                  exact this
                refine HC.mono ?_
                rintro e w' ⟨rfl, hw'⟩
                have U3 : Hid (Below wz.heap.size wz w') := by rw [hw']; exact up_al (up_al (Below.refl _ _) _) _
                have HB3 : Hid (JnB w w' (.slice (some ⟨b, off, none⟩) s.nodes.length cN) (.slice aH s.head.length cH) W N5 last ∧ w'.heap[N7]? = some (.cells #[.string y.key, .int .i64 y.seq, .int .i64 y.kind, .string y.val, .slice an HK cn] 124) ∧ N5 < N7) := ⟨HBz.out.1.up U3.out, blk_up HBz.out.2.1 U3.out, HBz.out.2.2⟩
                clear HC hw' HJ2 hb HBz l0 l1 l2 l3 n0 n1 n2 n3 y0 y1 y2 y3 y4 p0 q0 HWZ HU U3
                have m4 : w'.cell? ⟨N7, 4, none⟩ = some (.slice an HK cn) := blk_cell HB3.out.2.1 4 _ rfl
                go_wp2_with fail
                go_loopw [51] (fun q wx => ∃ (j : Nat) (W' : List Int), j ≤ HK ∧ q = .int .i64 (j : Int) ∧ Hid (W'.length = 8 ∧ stepW (NX.drop j) j ((k : Int) + 1) W' = stepW NX 0 ((k : Int) + 1) W) ∧ Hid (JnB w wx (.slice (some ⟨b, off, none⟩) s.nodes.length cN) (.slice aH s.head.length cH) W' N5 last ∧ wx.heap[N7]? = some (.cells #[.string y.key, .int .i64 y.seq, .int .i64 y.kind, .string y.val, .slice an HK cn] 124))) (fun q _ => HK - (intOf q).toNat)
                case atStart => exact ⟨0, W, by omega, rfl, ⟨HW8.out, rfl⟩, HB3.out.1, HB3.out.2.1⟩
                case round =>
                  have HN57 : Hid (N5 < N7) := HB3.out.2.2
                  clear HB3 m4
                  obtain ⟨j, W', hj, rfl, HW', HB⟩ := hrel
                  by_cases hjl : j < HK
                  · have hjl' : (j : Int) < (HK : Int) := by omega
                    have hj8 : j < 8 := by have := HHK.out; omega
                    have hj8' : (j : Int) < 8 := by omega
                    obtain ⟨bx, ox, cx, nx, e, hnx, hcx⟩ := (HNX.out _ HB.out.1.1.1).at j (by rw [HHL.out]; exact hjl)
                    simp only [Value.slice.injEq] at e
                    obtain ⟨rfl, _, rfl⟩ := e
                    have q1 := blk_cell HB.out.1.1.2.2 j _ (arrI_get W' j (by rw [HW'.out.1]; exact hj8))
                    have HD : Hid (stepW (NX.drop j) j ((k : Int) + 1) W' = if W'.getD j 0 = (k : Int) + 1 then stepW (NX.drop (j + 1)) (j + 1) ((k : Int) + 1) (W'.set j nx) else none) := by
                      unfold Hid
                      have hjn : j < NX.length := by rw [HHL.out]; exact hjl
                      rw [List.drop_eq_getElem_cons hjn]
                      have : NX[j] = nx := by
                        have := List.getElem?_eq_some_iff.1 hnx
                        exact this.2
                      rw [this]
                      rfl
                    have fz := blk_frozen HB.out.1.1.2.2 j
                    clear hnx
                    generalize hwv : W'.getD j 0 = wv at *
                    by_cases hq : wv = (k : Int) + 1
                    · subst hq
                      rw [if_pos rfl] at HD
                      have hq2 : ((k : Int) + 1 != (k : Int) + 1) = false := by simp
                      go_wp2_with fail
                      refine ⟨⟨j + 1, W'.set j nx, by omega, by go_num, ⟨by rw [List.length_set]; exact HW'.out.1, by rw [← HD.out]; exact HW'.out.2⟩, HB.out.1.set j nx, ?_⟩, by simp [intOf]; omega⟩
                      refine blk_at2 (C := 0) HB.out.2 ?_
                      have h1 := HB.out.1.2.1
                      have h2 := HN57.out
                      simp only
                      omega
                    · rw [if_neg hq] at HD
                      have hq2 : (wv != (k : Int) + 1) = true := by simpa using hq
                      have hJ : J = false := by
                        have := HJ3.out
                        rw [← HW'.out.2, HD.out] at this
                        exact this.symm
                      subst hJ
                      go_wp2_with fail
                      go_ret
                      exact ⟨rfl, HB.out.1.1.1⟩
                  · obtain rfl : j = HK := by omega
                    have HJ4 : Hid (joinF s.nodes (s.nodes.length - i - 1) W' y = J) := by
                      have := HJ3.out
                      rw [← HW'.out.2, ← HHL.out, List.drop_length] at this
                      exact this
                    have n0 : wr.cell? ⟨N7, 0, none⟩ = some (.string y.key) := blk_cell HB.out.2 0 _ rfl
                    have n1 : wr.cell? ⟨N7, 1, none⟩ = some (.int .i64 y.seq) := blk_cell HB.out.2 1 _ rfl
                    have n2 : wr.cell? ⟨N7, 2, none⟩ = some (.int .i64 y.kind) := blk_cell HB.out.2 2 _ rfl
                    have n3 : wr.cell? ⟨N7, 3, none⟩ = some (.string y.val) := blk_cell HB.out.2 3 _ rfl
                    have l0 : wr.cell? ⟨N5, 0, none⟩ = some (.string last.key) := blk_cell HB.out.1.2.2 0 _ rfl
                    have l1 : wr.cell? ⟨N5, 1, none⟩ = some (.int .i64 last.seq) := blk_cell HB.out.1.2.2 1 _ rfl
                    have l2 : wr.cell? ⟨N5, 2, none⟩ = some (.int .i64 last.kind) := blk_cell HB.out.1.2.2 2 _ rfl
                    have l3 : wr.cell? ⟨N5, 3, none⟩ = some (.string last.val) := blk_cell HB.out.1.2.2 3 _ rfl
                    have fz := fun k => blk_frozen HB.out.1.2.2 k
                    go_wp2_with fail
                    refine ⟨⟨i + 1, W', y, by omega, by go_num, ⟨HW'.out.1, ?_⟩, HB.out.1.last y⟩, by simp [intOf]; omega⟩
                    rw [show s.nodes.length - (i + 1) = s.nodes.length - i - 1 by omega]
                    exact HJ4.out
        · obtain rfl : i = s.nodes.length := by omega
          obtain ⟨a0, a1, a2, a3, a4, a5, a6, a7, rfl⟩ := eightI W HW.out.1
          have hJ : J = decide ([a0, a1, a2, a3, a4, a5, a6, a7] = List.replicate 8 (0 : Int)) := by
            have := HW.out.2
            rw [Nat.sub_self] at this
            exact this.symm
          have c0 : wr.cell? ⟨w.heap.size + 1, 0, none⟩ = some (.int .i64 a0) := blk_cell HB.out.1.2.2 0 _ rfl
          have c1 : wr.cell? ⟨w.heap.size + 1, 1, none⟩ = some (.int .i64 a1) := blk_cell HB.out.1.2.2 1 _ rfl
          have c2 : wr.cell? ⟨w.heap.size + 1, 2, none⟩ = some (.int .i64 a2) := blk_cell HB.out.1.2.2 2 _ rfl
          have c3 : wr.cell? ⟨w.heap.size + 1, 3, none⟩ = some (.int .i64 a3) := blk_cell HB.out.1.2.2 3 _ rfl
          have c4 : wr.cell? ⟨w.heap.size + 1, 4, none⟩ = some (.int .i64 a4) := blk_cell HB.out.1.2.2 4 _ rfl
          have c5 : wr.cell? ⟨w.heap.size + 1, 5, none⟩ = some (.int .i64 a5) := blk_cell HB.out.1.2.2 5 _ rfl
          have c6 : wr.cell? ⟨w.heap.size + 1, 6, none⟩ = some (.int .i64 a6) := blk_cell HB.out.1.2.2 6 _ rfl
          have c7 : wr.cell? ⟨w.heap.size + 1, 7, none⟩ = some (.int .i64 a7) := blk_cell HB.out.1.2.2 7 _ rfl
          clear q0 HW
          subst hJ
          have EQ := eq_eight [a0, a1, a2, a3, a4, a5, a6, a7] (List.replicate 8 0) rfl rfl wr
          have EQ' : (Op.equalIn 10000 89 (.agg #[.int .i64 a0, .int .i64 a1, .int .i64 a2, .int .i64 a3, .int .i64 a4, .int .i64 a5, .int .i64 a6, .int .i64 a7]) (.agg #[.int .i64 0, .int .i64 0, .int .i64 0, .int .i64 0, .int .i64 0, .int .i64 0, .int .i64 0, .int .i64 0])).run Tryz.prog wr = .ok (decide ([a0, a1, a2, a3, a4, a5, a6, a7] = List.replicate 8 (0 : Int))) wr := EQ
          clear EQ
          generalize hDD : decide ([a0, a1, a2, a3, a4, a5, a6, a7] = List.replicate 8 (0 : Int)) = DD at *
          go_wp2_with fail
          go_ret
          exact ⟨by rw [hDD]; rfl, HB.out.1.1⟩
end Go.Proofs.YthiegmhplnbdlaaGreat
