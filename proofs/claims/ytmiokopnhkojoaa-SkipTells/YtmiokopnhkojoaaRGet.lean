/- The document's Get. -/
import Derived.Test.YtmiokopnhkojoaaRAll
import Derived.Test.YtmiokopnhkojoaaRFirst
import Derived.Test.YtmiokopnhkojoaaPGet
namespace Go.Proofs.Ytmiokopnhkojoaa
open Go.RowKit
set_option linter.unusedVariables false
set_option linter.unusedSimpArgs false

set_option maxHeartbeats 4000000 in
set_option maxRecDepth 100000 in
theorem refGet_any (s : Sk) (es : List (En × Value)) (vN vH : Value) (key : ByteArray) (seq : Int) (w : World) (hV : SkE w vN vH s es) :
    Calls Try.prog 12 #[.agg #[vN, vH], .string key, .int .i64 seq] w fun e w' => e = .returned (.tuple #[enV (getV s key seq).1, .bool (getV s key seq).2.1, .int .i64 (getV s key seq).2.2]) ∧ Hid (Below w.heap.size w w') := by
  obtain ⟨⟨aN, cN, rfl⟩, ⟨aH, cH, rfl⟩⟩ := hV.form
  have HV : Hid (SkE w (.slice aN s.nodes.length cN) (.slice aH s.head.length cH) s es) := hV
  clear hV
  obtain ⟨wa, hwa⟩ : ∃ wa, wa = (w.alloc (.cells #[.slice aN s.nodes.length cN, .slice aH s.head.length cH] 25)).alloc (.cells #[.string ⟨#[]⟩, .int .i64 0, .int .i64 0, .string ⟨#[]⟩] 27) := ⟨_, rfl⟩
  have HWA : Hid ((w.alloc (.cells #[.slice aN s.nodes.length cN, .slice aH s.head.length cH] 25)).alloc (.cells #[.string ⟨#[]⟩, .int .i64 0, .int .i64 0, .string ⟨#[]⟩] 27) = wa) := hwa.symm
  have HB : Hid (Below w.heap.size w wa ∧ wa.heap[w.heap.size]? = some (.cells #[.slice aN s.nodes.length cN, .slice aH s.head.length cH] 25) ∧ wa.heap[w.heap.size + 1]? = some (.cells #[.string ⟨#[]⟩, .int .i64 0, .int .i64 0, .string ⟨#[]⟩] 27)) := by
    have b1 := blk_new (w.alloc (.cells #[.slice aN s.nodes.length cN, .slice aH s.head.length cH] 25)) (.cells #[.string ⟨#[]⟩, .int .i64 0, .int .i64 0, .string ⟨#[]⟩] 27)
    have e : (w.alloc (.cells #[.slice aN s.nodes.length cN, .slice aH s.head.length cH] 25)).heap.size = w.heap.size + 1 := by simp
    rw [e, ← hwa] at b1
    exact ⟨by rw [hwa]; exact up_al (up_al (Below.refl _ _) _) _, by rw [hwa]; exact blk_up (blk_new w _) (up_alloc _ _), b1⟩
  have p0 : wa.cell? ⟨w.heap.size, 0, none⟩ = some (.slice aN s.nodes.length cN) := blk_cell HB.out.2.1 0 _ rfl
  have p1 : wa.cell? ⟨w.heap.size, 1, none⟩ = some (.slice aH s.head.length cH) := blk_cell HB.out.2.1 1 _ rfl
  have HC := refAll_any s es _ _ wa (HV.out.up HB.out.1)
  clear hwa
  have HEND : Hid (∀ (wz : World) (y : En) (b : Bool) (code : Int), Below w.heap.size w wz → wz.heap[w.heap.size + 1]? = some (.cells #[.string ⟨#[]⟩, .int .i64 0, .int .i64 0, .string ⟨#[]⟩] 27) → getV s key seq = (y, b, code) →
      ((((wz.setCell ⟨w.heap.size + 1, 0, none⟩ (.string y.key)).setCell ⟨w.heap.size + 1, 1, none⟩ (.int .i64 y.seq)).setCell ⟨w.heap.size + 1, 2, none⟩ (.int .i64 y.kind)).setCell ⟨w.heap.size + 1, 3, none⟩ (.string y.val)).heap[w.heap.size + 1]? = some (.cells #[.string y.key, .int .i64 y.seq, .int .i64 y.kind, .string y.val] 27) ∧
      (Ending.returned (.tuple #[.agg #[.string y.key, .int .i64 y.seq, .int .i64 y.kind, .string y.val], .bool b, .int .i64 code]) = .returned (.tuple #[enV (getV s key seq).1, .bool (getV s key seq).2.1, .int .i64 (getV s key seq).2.2]) ∧ Hid (Below w.heap.size w ((((wz.setCell ⟨w.heap.size + 1, 0, none⟩ (.string y.key)).setCell ⟨w.heap.size + 1, 1, none⟩ (.int .i64 y.seq)).setCell ⟨w.heap.size + 1, 2, none⟩ (.int .i64 y.kind)).setCell ⟨w.heap.size + 1, 3, none⟩ (.string y.val))))) := by
    intro wz y b code hb h27 he
    refine ⟨set4_blk h27 _ _ _ _, by rw [he]; rfl, ?_⟩
    exact hb.grown (set4_grown wz (w.heap.size + 1) _ _ _ _) hb.size (fun k hk => by injection hk with hk; rw [← hk]; omega)
  go_enter Try.func12, Try.ntmps12
  go_upto_region 1 with fail
  rw [HWA.out]
  clear HWA
  go_wp2_with fail
  refine HC.mono ?_
  rintro e w1 ⟨a, n, c, rfl, HL, U1⟩
  have HB1 : Hid (Below w.heap.size w w1 ∧ w1.heap[w.heap.size + 1]? = some (.cells #[.string ⟨#[]⟩, .int .i64 0, .int .i64 0, .string ⟨#[]⟩] 27)) := ⟨up_trans HB.out.1 U1.out, blk_up HB.out.2.2 U1.out⟩
  clear HC p0 p1 HB U1
  by_cases hG : checkS s = true
  · have e0 : errC s = 0 := by unfold errC; rw [if_pos hG]
    rw [e0]
    have HAL : Hid (allV s = s.all) := by unfold Hid allV; rw [if_pos hG]
    have HGV : Hid (getV s key seq = ((firstV s.all key seq).1, (firstV s.all key seq).2, 0)) := by
      unfold Hid getV firstV
      rw [hG]
      cases firstF s.all key seq <;> rfl
    have HLR : Hid (EntsR w1 (.slice a n c) s.all ∧ n = s.all.length) := by
      have h1 := HL.out.1
      have h2 := HL.out.2
      rw [HAL.out] at h1 h2
      exact ⟨Rws.own h2, h1⟩
    obtain ⟨y, b, hyb⟩ : ∃ y b, firstV s.all key seq = (y, b) := ⟨_, _, rfl⟩
    have HF := first_any s.all a c key seq w1 (by have := HLR.out; rw [← this.2]; exact this.1)
    rw [← HLR.out.2, hyb] at HF
    unfold enV at HF
    have HGE : Hid (getV s key seq = (y, b, 0)) := by
      have := HGV.out
      rw [hyb] at this
      exact this
    clear hG e0 hyb HL
    go_wp2_with fail
    refine HF.mono ?_
    rintro e w2 ⟨rfl, U2⟩
    clear HF
    obtain ⟨w3, hw3⟩ : ∃ w3, w3 = w2.alloc (.cells #[.string y.key, .int .i64 y.seq, .int .i64 y.kind, .string y.val] 27) := ⟨_, rfl⟩
    have HW3 : Hid (w2.alloc (.cells #[.string y.key, .int .i64 y.seq, .int .i64 y.kind, .string y.val] 27) = w3) := hw3.symm
    have HB3 : Hid (Below w.heap.size w w3 ∧ w3.heap[w.heap.size + 1]? = some (.cells #[.string ⟨#[]⟩, .int .i64 0, .int .i64 0, .string ⟨#[]⟩] 27) ∧ w3.heap[w2.heap.size]? = some (.cells #[.string y.key, .int .i64 y.seq, .int .i64 y.kind, .string y.val] 27)) := by
      rw [hw3]
      exact ⟨up_al (up_trans HB1.out.1 U2.out) _, blk_up (blk_up HB1.out.2 U2.out) (up_alloc _ _), blk_new _ _⟩
    clear hw3
    go_upto_region 5 with fail
    rw [HW3.out]
    clear HW3
    generalize hT : w2.heap.size = T at *
    have t0 : w3.cell? ⟨T, 0, none⟩ = some (.string y.key) := blk_cell HB3.out.2.2 0 _ rfl
    have t1 : w3.cell? ⟨T, 1, none⟩ = some (.int .i64 y.seq) := blk_cell HB3.out.2.2 1 _ rfl
    have t2 : w3.cell? ⟨T, 2, none⟩ = some (.int .i64 y.kind) := blk_cell HB3.out.2.2 2 _ rfl
    have t3 : w3.cell? ⟨T, 3, none⟩ = some (.string y.val) := blk_cell HB3.out.2.2 3 _ rfl
    have d0 : w3.cell? ⟨w.heap.size + 1, 0, none⟩ = some (.string ⟨#[]⟩) := blk_cell HB3.out.2.1 0 _ rfl
    have d1 : w3.cell? ⟨w.heap.size + 1, 1, none⟩ = some (.int .i64 0) := blk_cell HB3.out.2.1 1 _ rfl
    have d2 : w3.cell? ⟨w.heap.size + 1, 2, none⟩ = some (.int .i64 0) := blk_cell HB3.out.2.1 2 _ rfl
    have d3 : w3.cell? ⟨w.heap.size + 1, 3, none⟩ = some (.string ⟨#[]⟩) := blk_cell HB3.out.2.1 3 _ rfl
    have f0 := fun k => blk_frozen HB3.out.2.1 k
    go_wp2_with fail
    obtain ⟨hz1, hz2⟩ := HEND.out _ y b 0 HB3.out.1 HB3.out.2.1 HGE.out
    exact bodyPost_ret (results_ent3 (q := 6) (r := 7) (u := 8) rfl _ _ rfl hz1) rfl hz2
  · have e9 : errC s = 9 := by unfold errC; rw [if_neg hG]
    have HE : Hid (getV s key seq = (default, false, 9)) := by
      unfold Hid getV
      rw [if_pos (by simpa using hG)]
    rw [e9]
    have d0 : w1.cell? ⟨w.heap.size + 1, 0, none⟩ = some (.string ⟨#[]⟩) := blk_cell HB1.out.2 0 _ rfl
    have d1 : w1.cell? ⟨w.heap.size + 1, 1, none⟩ = some (.int .i64 0) := blk_cell HB1.out.2 1 _ rfl
    have d2 : w1.cell? ⟨w.heap.size + 1, 2, none⟩ = some (.int .i64 0) := blk_cell HB1.out.2 2 _ rfl
    have d3 : w1.cell? ⟨w.heap.size + 1, 3, none⟩ = some (.string ⟨#[]⟩) := blk_cell HB1.out.2 3 _ rfl
    have f0 := fun k => blk_frozen HB1.out.2 k
    go_wp2_with fail
    obtain ⟨hz1, hz2⟩ := HEND.out w1 default false 9 HB1.out.1 HB1.out.2 HE.out
    exact bodyPost_ret (results_ent3 (q := 6) (r := 7) (u := 8) rfl _ _ rfl hz1) rfl hz2
end Go.Proofs.Ytmiokopnhkojoaa
