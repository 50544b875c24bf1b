/- The page's example. -/
import Derived.Test.YtmiokopnhkojoaaPPut
import Derived.Test.YtmiokopnhkojoaaPAll2
import Derived.Test.YtmiokopnhkojoaaPHgt
namespace Go.Proofs.Ytmiokopnhkojoaa
open Go.RowKit
set_option linter.unusedVariables false
set_option linter.unusedSimpArgs false

theorem num_any (n : Int) (w : World) : Calls Try.prog 16 #[.int .i64 n] w fun e w' => e = .returned (.int .i64 n) ∧ w' = w := by
  go_enter Try.func16, Try.ntmps16
  go_wp2
  go_ret
  exact ⟨rfl, rfl⟩
theorem errP_ok {s : Sk} {x : En} {h : Int} (g : Good s) (hm : mayE x = true) (hr : reachP h = true) (ha : s.es.any (fun e => twin e x) = false) (hl : s.es.length < 4096) : errP s x h = 0 := by
  unfold errP
  rw [(checkS_iff s).2 g, hm, hr, ha]
  rw [Sk.es_len] at hl
  simp
  omega
theorem all_es (s : Sk) : s.all = (orderF s.es s.es.length).map (eAt s.es) := by
  unfold Sk.all Sk.ord
  rw [Sk.es_len]
  refine List.map_congr_left (fun k hk => ?_)
  rw [Sk.eAt]
def exB : En := ⟨⟨#[98]⟩, 1, 1, ⟨#[]⟩⟩
def exA2 : En := ⟨⟨#[97]⟩, 2, 1, ⟨#[]⟩⟩
def exA1 : En := ⟨⟨#[97]⟩, 1, 1, ⟨#[]⟩⟩
theorem ex_may : mayE exB = true ∧ mayE exA2 = true ∧ mayE exA1 = true := by
  refine ⟨?_, ?_, ?_⟩ <;> simp [mayE, exB, exA2, exA1, ByteArray.size, ByteArray.toList_eq]
theorem ex_twin : twin exB exA2 = false ∧ twin exB exA1 = false ∧ twin exA2 exA1 = false := by
  refine ⟨?_, ?_, ?_⟩ <;> simp [twin, exB, exA2, exA1, ByteArray.toList_eq]
theorem ex_before : beforeE exB exA2 = false ∧ beforeE exA2 exA1 = true ∧ beforeE exB exA1 = false := by
  refine ⟨?_, ?_, ?_⟩ <;> simp [beforeE, exB, exA2, exA1, ByteArray.toList_eq, Op.bytesLess]
theorem ex_all : (orderF [exB, exA2, exA1] 3).map (eAt [exB, exA2, exA1]) = [exA2, exA1, exB] := by
  obtain ⟨h1, h2, h3⟩ := ex_before
  have p1 : orderF [exB, exA2, exA1] 1 = [0] := rfl
  have p2 : orderF [exB, exA2, exA1] 2 = [1, 0] := by
    rw [orderF, p1, insF]
    simp [posF, List.findIdx_cons, h1]
  have p3 : orderF [exB, exA2, exA1] 3 = [1, 2, 0] := by
    rw [orderF, p2, insF]
    simp [posF, List.findIdx_cons, h2, h3]
  rw [p3]
  rfl

theorem isH4 : IsH 4 2 := by
  refine ⟨by decide, by decide, ?_, .inr (by decide)⟩
  intro j hj
  have : j = 0 := by omega
  subst this
  rfl
set_option maxHeartbeats 4000000 in
set_option maxRecDepth 100000 in
theorem alive_any (w : World) : Calls Try.prog 20 #[] w fun e w' => e = .returned (.bool true) ∧ Hid (Below w.heap.size w w') := by
  go_enter Try.func20, Try.ntmps20
  go_wp2_with fail
  refine (new_any w).mono ?_
  rintro e w1 ⟨a, c, a2, c2, rfl, O1, U1⟩
  have HP := put_any emptyS [] _ _ exB 1 w1 O1.out.read
  have E1 : errP emptyS exB 1 = 0 := errP_ok emptyS_good ex_may.1 (by decide) rfl (by decide)
  rw [E1] at HP
  unfold enV exB at HP
  go_wp2_with fail
  refine HP.mono ?_
  rintro e w2 ⟨vN2, vH2, t2, es2, rfl, O2, U2⟩
  have HG2 : Hid (Good t2 ∧ t2.es = [exB]) := by
    have := O2.out.2.2 E1
    exact ⟨this.1, this.2.1⟩
  have HO2 : Hid (OwnSk w2 w1.heap.size 62 vN2 vH2 t2 es2 ∧ Below w.heap.size w w2) := ⟨O2.out.1, up_trans U1.out U2.out⟩
  clear HP O1 O2 U1 U2 E1
  obtain ⟨⟨aN, cN, rfl⟩, ⟨aH, cH, rfl⟩⟩ := HO2.out.1.read.form
  obtain ⟨wb, hwb⟩ : ∃ wb, wb = w2.alloc (.cells #[.slice aN t2.nodes.length cN, .slice aH t2.head.length cH] 30) := ⟨_, rfl⟩
  have HWB : Hid (w2.alloc (.cells #[.slice aN t2.nodes.length cN, .slice aH t2.head.length cH] 30) = wb) := hwb.symm
  have UB : Hid (Below w2.heap.size w2 wb) := by rw [hwb]; exact up_alloc _ _
  have HBB : Hid (wb.heap[w2.heap.size]? = some (.cells #[.slice aN t2.nodes.length cN, .slice aH t2.head.length cH] 30)) := by rw [hwb]; exact blk_new _ _
  have HP := put_any t2 es2 _ _ exA2 3 wb (HO2.out.1.read.up UB.out)
  have E2 : errP t2 exA2 3 = 0 := errP_ok HG2.out.1 ex_may.2.1 (by decide) (by rw [HG2.out.2]; simp [ex_twin.1]) (by rw [HG2.out.2]; decide)
  rw [E2] at HP
  unfold enV exA2 at HP
  clear hwb
  go_wp2_with fail
  rw [HWB.out]
  refine HP.mono ?_
  rintro e w3 ⟨vN3, vH3, t3, es3, rfl, O3, U3⟩
  have HG3 : Hid (Good t3 ∧ t3.es = [exB, exA2]) := by
    have := O3.out.2.2 E2
    refine ⟨this.1, ?_⟩
    rw [this.2.1, HG2.out.2]
    rfl
  have HB3 : Hid (w3.heap[w2.heap.size]? = some (.cells #[.slice aN t2.nodes.length cN, .slice aH t2.head.length cH] 30)) := blk_up HBB.out U3.out
  have HO3 : Hid (OwnSk w3 wb.heap.size 62 vN3 vH3 t3 es3 ∧ Below w.heap.size w w3 ∧ w.heap.size ≤ w2.heap.size ∧ w2.heap.size < wb.heap.size) := ⟨O3.out.1, up_trans HO2.out.2 (up_trans UB.out U3.out), HO2.out.2.size, blk_lt HBB.out⟩
  clear HP O3 HO2 HG2 E2 HWB HBB UB U3
  obtain ⟨⟨aM, cM, rfl⟩, ⟨aG, cG, rfl⟩⟩ := HO3.out.1.read.form
  generalize hT : w2.heap.size = T at *
  have b0 : w3.cell? ⟨T, 0, none⟩ = some (.slice aN t2.nodes.length cN) := blk_cell HB3.out 0 _ rfl
  have b1 : w3.cell? ⟨T, 1, none⟩ = some (.slice aH t2.head.length cH) := blk_cell HB3.out 1 _ rfl
  have f0 := fun k => blk_frozen HB3.out k
  -- stored into the box
  obtain ⟨w4, hw4⟩ : ∃ w4, w4 = (w3.setCell ⟨T, 0, none⟩ (.slice aM t3.nodes.length cM)).setCell ⟨T, 1, none⟩ (.slice aG t3.head.length cG) := ⟨_, rfl⟩
  have HW4 : Hid ((w3.setCell ⟨T, 0, none⟩ (.slice aM t3.nodes.length cM)).setCell ⟨T, 1, none⟩ (.slice aG t3.head.length cG) = w4) := hw4.symm
  have HB4 : Hid (w4.heap[T]? = some (.cells #[.slice aM t3.nodes.length cM, .slice aG t3.head.length cG] 30)) := by rw [hw4]; exact set2_blk HB3.out _ _
  have HG4 : Hid (w3.grownBy w4 (some T)) := by rw [hw4]; exact set2_grown _ _ _ _
  have HO4 : Hid (OwnSk w4 wb.heap.size 62 (.slice aM t3.nodes.length cM) (.slice aG t3.head.length cG) t3 es3 ∧ Below w.heap.size w w4 ∧ w.heap.size ≤ T) := ⟨HO3.out.1.block HB3.out (by decide) (by decide) HG4.out, HO3.out.2.1.grown HG4.out HO3.out.2.1.size (fun k hk => by injection hk with hk; have := HO3.out.2.2.1; omega), HO3.out.2.2.1⟩
  have HP := put_any t3 es3 _ _ exA1 2 w4 HO4.out.1.read
  have E3 : errP t3 exA1 2 = 0 := errP_ok HG3.out.1 ex_may.2.2 (by decide) (by rw [HG3.out.2]; simp [ex_twin.2.1, ex_twin.2.2]) (by rw [HG3.out.2]; decide)
  rw [E3] at HP
  unfold enV exA1 at HP
  have d0 : ((w3.setCell ⟨T, 0, none⟩ (.slice aM t3.nodes.length cM)).setCell ⟨T, 1, none⟩ (.slice aG t3.head.length cG)).cell? ⟨T, 0, none⟩ = some (.slice aM t3.nodes.length cM) := by rw [HW4.out]; exact blk_cell HB4.out 0 _ rfl
  have d1 : ((w3.setCell ⟨T, 0, none⟩ (.slice aM t3.nodes.length cM)).setCell ⟨T, 1, none⟩ (.slice aG t3.head.length cG)).cell? ⟨T, 1, none⟩ = some (.slice aG t3.head.length cG) := by rw [HW4.out]; exact blk_cell HB4.out 1 _ rfl
  clear hw4 HG4 HO3
  go_wp2_with fail
  rw [HW4.out]
  refine HP.mono ?_
  rintro e w5 ⟨vN5, vH5, t5, es5, rfl, O5, U5⟩
  have HG5 : Hid (Good t5 ∧ t5.es = [exB, exA2, exA1]) := by
    have := O5.out.2.2 E3
    refine ⟨this.1, ?_⟩
    rw [this.2.1, HG3.out.2]
    rfl
  have HB5 : Hid (w5.heap[T]? = some (.cells #[.slice aM t3.nodes.length cM, .slice aG t3.head.length cG] 30)) := blk_up HB4.out U5.out
  have HO5 : Hid (OwnSk w5 w4.heap.size 62 vN5 vH5 t5 es5 ∧ Below w.heap.size w w5 ∧ w.heap.size ≤ T) := ⟨O5.out.1, up_trans HO4.out.2.1 U5.out, HO4.out.2.2⟩
  clear HP O5 HO4 HG3 E3 HW4 HB4 U5 d0 d1 b0 b1 f0 HB3
  obtain ⟨⟨aP, cP, rfl⟩, ⟨aQ, cQ, rfl⟩⟩ := HO5.out.1.read.form
  have b0 : w5.cell? ⟨T, 0, none⟩ = some (.slice aM t3.nodes.length cM) := blk_cell HB5.out 0 _ rfl
  have b1 : w5.cell? ⟨T, 1, none⟩ = some (.slice aG t3.head.length cG) := blk_cell HB5.out 1 _ rfl
  have f0 := fun k => blk_frozen HB5.out k
  obtain ⟨w6, hw6⟩ : ∃ w6, w6 = (w5.setCell ⟨T, 0, none⟩ (.slice aP t5.nodes.length cP)).setCell ⟨T, 1, none⟩ (.slice aQ t5.head.length cQ) := ⟨_, rfl⟩
  have HW6 : Hid ((w5.setCell ⟨T, 0, none⟩ (.slice aP t5.nodes.length cP)).setCell ⟨T, 1, none⟩ (.slice aQ t5.head.length cQ) = w6) := hw6.symm
  have HB6 : Hid (w6.heap[T]? = some (.cells #[.slice aP t5.nodes.length cP, .slice aQ t5.head.length cQ] 30)) := by rw [hw6]; exact set2_blk HB5.out _ _
  have HG6 : Hid (w5.grownBy w6 (some T)) := by rw [hw6]; exact set2_grown _ _ _ _
  have HO6 : Hid (OwnSk w6 w4.heap.size 62 (.slice aP t5.nodes.length cP) (.slice aQ t5.head.length cQ) t5 es5 ∧ Below w.heap.size w w6) := ⟨HO5.out.1.block HB5.out (by decide) (by decide) HG6.out, HO5.out.2.1.grown HG6.out HO5.out.2.1.size (fun k hk => by injection hk with hk; have := HO5.out.2.2; omega)⟩
  have HA := all_any t5 es5 _ _ w6 HO6.out.1.read
  have E5 : errC t5 = 0 := errC_good HG5.out.1
  rw [E5] at HA
  have d0 : ((w5.setCell ⟨T, 0, none⟩ (.slice aP t5.nodes.length cP)).setCell ⟨T, 1, none⟩ (.slice aQ t5.head.length cQ)).cell? ⟨T, 0, none⟩ = some (.slice aP t5.nodes.length cP) := by rw [HW6.out]; exact blk_cell HB6.out 0 _ rfl
  have d1 : ((w5.setCell ⟨T, 0, none⟩ (.slice aP t5.nodes.length cP)).setCell ⟨T, 1, none⟩ (.slice aQ t5.head.length cQ)).cell? ⟨T, 1, none⟩ = some (.slice aQ t5.head.length cQ) := by rw [HW6.out]; exact blk_cell HB6.out 1 _ rfl
  clear hw6 HG6 HO5
  go_wp2_with fail
  rw [HW6.out]
  refine HA.mono ?_
  rintro e w7 ⟨a7, n7, c7, rfl, HL, U7⟩
  have HAL : Hid (allV t5 = [exA2, exA1, exB]) := by
    unfold Hid allV
    rw [if_pos ((checkS_iff t5).2 HG5.out.1), all_es, HG5.out.2]
    exact ex_all
  have HUE : Hid (Below w.heap.size w w7) := up_trans HO6.out.2 U7.out
  obtain rfl : n7 = 3 := by rw [HL.out.1, HAL.out]; rfl
  have HLE : Hid (EntsR w7 (.slice a7 3 c7) [exA2, exA1, exB]) := by
    have := HL.out.2
    rw [HAL.out] at this
    exact Rws.own this
  clear HA HL HG5 E5 HW6 HB6 U7 d0 d1 b0 b1 f0 HB5 HO6 HAL
  obtain ⟨b, off, cap, n, e, hn, y0, y1, y2, y3⟩ := HLE.out.at 0 (by decide)
  simp only [Value.slice.injEq] at e
  obtain ⟨rfl, _, rfl⟩ := e
  obtain ⟨_, _, _, n2, e, hn2, z0, z1, z2, z3⟩ := HLE.out.at 1 (by decide)
  simp only [Value.slice.injEq, Option.some.injEq, Addr.mk.injEq] at e
  obtain ⟨⟨rfl, rfl, _⟩, _, rfl⟩ := e
  obtain ⟨_, _, _, n3, e, hn3, v0, v1, v2, v3⟩ := HLE.out.at 2 (by decide)
  simp only [Value.slice.injEq, Option.some.injEq, Addr.mk.injEq] at e
  obtain ⟨⟨rfl, rfl, _⟩, _, rfl⟩ := e
  simp only [List.getElem?_cons_zero, List.getElem?_cons_succ, Option.some.injEq] at hn hn2 hn3
  subst hn hn2 hn3
  simp only [exA2, exA1, exB, Nat.zero_mul, Nat.add_zero, Nat.one_mul] at y0 y1 y2 y3 z0 z1 z2 z3 v0 v1 v2 v3
  have HHT : Hid (Calls Try.prog 21 #[.int .u64 4] w7 fun e w' => e = .returned (.int .i64 2) ∧ w' = w7) := by
    have := height_any 4 (by decide) w7
    refine this.mono ?_
    rintro e w' ⟨h, rfl, H, rfl⟩
    have h2 : IsH 4 2 := isH4
    rw [H.out.one h2]
    exact ⟨rfl, rfl⟩
  have HNM : Hid (∀ n : Int, Calls Try.prog 16 #[.int .i64 n] w7 fun e w' => e = .returned (.int .i64 n) ∧ w' = w7) := fun n => num_any n w7
  have s1 : ((⟨#[97]⟩ : ByteArray).toList == (⟨#[97]⟩ : ByteArray).toList) = true := by simp
  have s2 : ((⟨#[98]⟩ : ByteArray).toList == (⟨#[98]⟩ : ByteArray).toList) = true := by simp
  go_wp2_with fail
  refine (HNM.out 0).mono ?_
  rintro e w8 ⟨rfl, rfl⟩
  go_wp2_with fail
  refine (HNM.out 0).mono ?_
  rintro e w8 ⟨rfl, rfl⟩
  go_wp2_with fail
  refine (HNM.out 0).mono ?_
  rintro e w8 ⟨rfl, rfl⟩
  go_wp2_with fail
  refine (HNM.out 0).mono ?_
  rintro e w8 ⟨rfl, rfl⟩
  go_wp2_with fail
  refine HHT.out.mono ?_
  rintro e w9 ⟨rfl, rfl⟩
  go_wp2_with fail
  go_ret
  exact ⟨rfl, HUE⟩
end Go.Proofs.Ytmiokopnhkojoaa
