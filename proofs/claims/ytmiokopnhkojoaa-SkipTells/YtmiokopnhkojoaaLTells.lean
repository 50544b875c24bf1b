/- SkipTells, walked. -/
import Derived.Test.YtmiokopnhkojoaaRPut
import Derived.Test.YtmiokopnhkojoaaRGet
import Derived.Test.YtmiokopnhkojoaaLOf
import Derived.Test.YtmiokopnhkojoaaLSame
import Derived.Test.YtmiokopnhkojoaaLDraws
namespace Go.Proofs.Ytmiokopnhkojoaa
open Go.RowKit
set_option linter.unusedVariables false
set_option linter.unusedSimpArgs false

set_option maxHeartbeats 8000000 in
set_option maxRecDepth 100000 in
theorem tells_walk (s : Sk) (es : List (En × Value)) (vN vH : Value) (x : En) (h : Int) (key : ByteArray) (seq : Int) (w : World) (hV : SkE w vN vH s es) (hbig : SkBig s) :
    Calls Try.prog 3 #[.agg #[vN, vH], enV x, .int .i64 h, .string key, .int .i64 seq] w fun e w' => e = .returned (.bool true) ∧ Below w.heap.size w w' := by
  obtain ⟨⟨aN, cN, rfl⟩, ⟨aH, cH, rfl⟩⟩ := hV.form
  have HBIG : Hid (SkBig s) := hbig
  obtain ⟨G, hG⟩ : ∃ G, getV s key seq = G := ⟨_, rfl⟩
  obtain ⟨gy, gb, gc⟩ := G
  have HGV : Hid (getV s key seq = (gy, gb, gc)) := hG
  clear hG
  obtain ⟨CO, hCO⟩ : ∃ CO, errP s x h = CO := ⟨_, rfl⟩
  have HCO : Hid (errP s x h = CO) := hCO
  obtain ⟨EC, hEC⟩ : ∃ EC, errC s = EC := ⟨_, rfl⟩
  have HEC : Hid (errC s = EC) := hEC
  clear hCO hEC
  generalize hn : s.nodes.length = n at *
  generalize hm : s.head.length = m at *
  have HNM : Hid (s.nodes.length = n ∧ s.head.length = m) := ⟨hn, hm⟩
  clear hn hm
  unfold enV
  obtain ⟨W, hW⟩ : ∃ W, W = (w.alloc (.cells #[.slice aN n cN, .slice aH m cH] 25)).alloc (.cells #[.string x.key, .int .i64 x.seq, .int .i64 x.kind, .string x.val] 27) := ⟨_, rfl⟩
  have HWE : Hid ((w.alloc (.cells #[.slice aN n cN, .slice aH m cH] 25)).alloc (.cells #[.string x.key, .int .i64 x.seq, .int .i64 x.kind, .string x.val] 27) = W) := hW.symm
  have BE : Hid (Below w.heap.size w W) := by rw [hW]; exact up_al (up_al (Below.refl _ _) _) _
  have KB0 : Hid (W.heap[w.heap.size]? = some (.cells #[.slice aN n cN, .slice aH m cH] 25)) := by rw [hW]; exact blk_up (blk_new w _) (up_alloc _ _)
  have KB1 : Hid (W.heap[w.heap.size + 1]? = some (.cells #[.string x.key, .int .i64 x.seq, .int .i64 x.kind, .string x.val] 27)) := by
    have := blk_new (w.alloc (.cells #[.slice aN n cN, .slice aH m cH] 25)) (.cells #[.string x.key, .int .i64 x.seq, .int .i64 x.kind, .string x.val] 27)
    have e : (w.alloc (.cells #[.slice aN n cN, .slice aH m cH] 25)).heap.size = w.heap.size + 1 := by simp
    rw [e, ← hW] at this
    exact this
  have FS : Hid (SkE W (.slice aN n cN) (.slice aH m cH) s es) := hV.up BE.out
  clear hW hV hbig
  go_enter Try.func3, Try.ntmps3
  have e0 : ((w.alloc (.cells #[.slice aN n cN, .slice aH m cH] 25)).alloc (.cells #[.string x.key, .int .i64 x.seq, .int .i64 x.kind, .string x.val] 27)).cell? ⟨w.heap.size, 0, none⟩ = some (.slice aN n cN) := by rw [HWE.out]; exact blk_cell KB0.out 0 _ rfl
  have e1 : ((w.alloc (.cells #[.slice aN n cN, .slice aH m cH] 25)).alloc (.cells #[.string x.key, .int .i64 x.seq, .int .i64 x.kind, .string x.val] 27)).cell? ⟨w.heap.size, 1, none⟩ = some (.slice aH m cH) := by rw [HWE.out]; exact blk_cell KB0.out 1 _ rfl
  have HC := of_any s es _ _ W FS.out HBIG.out
  go_wp2_with fail
  rw [HWE.out]
  refine HC.mono ?_
  rintro e w1 ⟨vM, vG, rfl, ⟨es1, O1⟩, U1⟩
  obtain ⟨⟨aM, cM, rfl⟩, ⟨aG, cG, rfl⟩⟩ := O1.out.read.form
  rw [HNM.out.1, HNM.out.2] at O1 ⊢
  clear HC HWE e0 e1
  replace BE : Hid (Below w.heap.size w w1) := up_trans BE.out U1.out
  replace KB0 : Hid (w1.heap[w.heap.size]? = some (.cells #[.slice aN n cN, .slice aH m cH] 25)) := blk_up KB0.out U1.out
  replace KB1 : Hid (w1.heap[w.heap.size + 1]? = some (.cells #[.string x.key, .int .i64 x.seq, .int .i64 x.kind, .string x.val] 27)) := blk_up KB1.out U1.out
  replace FS : Hid (SkE w1 (.slice aN n cN) (.slice aH m cH) s es) := FS.out.up U1.out
  have FO : Hid (SkE w1 (.slice aM n cM) (.slice aG m cG) s es1) := O1.out.read
  clear O1 U1
  obtain ⟨x1, hx1⟩ : ∃ x1, x1 = w1.alloc (.cells #[.slice aM n cM, .slice aG m cG] 30) := ⟨_, rfl⟩
  have HWE : Hid (w1.alloc (.cells #[.slice aM n cM, .slice aG m cG] 30) = x1) := hx1.symm
  have UU : Below w1.heap.size w1 x1 := by rw [hx1]; exact up_alloc _ _
  have KT1 : Hid (x1.heap[w1.heap.size]? = some (.cells #[.slice aM n cM, .slice aG m cG] 30)) := by rw [hx1]; exact blk_new _ _
  replace BE : Hid (Below w.heap.size w x1) := up_trans BE.out UU
  replace KB0 : Hid (x1.heap[w.heap.size]? = some (.cells #[.slice aN n cN, .slice aH m cH] 25)) := blk_up KB0.out UU
  replace KB1 : Hid (x1.heap[w.heap.size + 1]? = some (.cells #[.string x.key, .int .i64 x.seq, .int .i64 x.kind, .string x.val] 27)) := blk_up KB1.out UU
  replace FS : Hid (SkE x1 (.slice aN n cN) (.slice aH m cH) s es) := FS.out.up UU
  replace FO : Hid (SkE x1 (.slice aM n cM) (.slice aG m cG) s es1) := FO.out.up UU
  clear hx1 UU
  have e0 : (w1.alloc (.cells #[.slice aM n cM, .slice aG m cG] 30)).cell? ⟨w1.heap.size, 0, none⟩ = some (.slice aM n cM) := by rw [HWE.out]; exact blk_cell KT1.out 0 _ rfl
  have e1 : (w1.alloc (.cells #[.slice aM n cM, .slice aG m cG] 30)).cell? ⟨w1.heap.size, 1, none⟩ = some (.slice aG m cG) := by rw [HWE.out]; exact blk_cell KT1.out 1 _ rfl
  have e2 : (w1.alloc (.cells #[.slice aM n cM, .slice aG m cG] 30)).cell? ⟨w.heap.size + 1, 0, none⟩ = some (.string x.key) := by rw [HWE.out]; exact blk_cell KB1.out 0 _ rfl
  have e3 : (w1.alloc (.cells #[.slice aM n cM, .slice aG m cG] 30)).cell? ⟨w.heap.size + 1, 1, none⟩ = some (.int .i64 x.seq) := by rw [HWE.out]; exact blk_cell KB1.out 1 _ rfl
  have e4 : (w1.alloc (.cells #[.slice aM n cM, .slice aG m cG] 30)).cell? ⟨w.heap.size + 1, 2, none⟩ = some (.int .i64 x.kind) := by rw [HWE.out]; exact blk_cell KB1.out 2 _ rfl
  have e5 : (w1.alloc (.cells #[.slice aM n cM, .slice aG m cG] 30)).cell? ⟨w.heap.size + 1, 3, none⟩ = some (.string x.val) := by rw [HWE.out]; exact blk_cell KB1.out 3 _ rfl
  have HC := put_any s es1 _ _ x h x1 FO.out
  rw [HCO.out] at HC
  unfold enV at HC
  go_wp2_with fail
  rw [HWE.out]
  refine HC.mono ?_
  rintro e w2 ⟨vA, vB, t, es2, rfl, O2, U2⟩
  obtain ⟨⟨aA, cA, rfl⟩, ⟨aB, cB, rfl⟩⟩ := O2.out.1.read.form
  have HP1 : Hid (IsPut s x h t) := O2.out.2
  clear HC HWE e0 e1 e2 e3 e4 e5
  replace BE : Hid (Below w.heap.size w w2) := up_trans BE.out U2.out
  replace KB0 : Hid (w2.heap[w.heap.size]? = some (.cells #[.slice aN n cN, .slice aH m cH] 25)) := blk_up KB0.out U2.out
  replace KB1 : Hid (w2.heap[w.heap.size + 1]? = some (.cells #[.string x.key, .int .i64 x.seq, .int .i64 x.kind, .string x.val] 27)) := blk_up KB1.out U2.out
  replace FS : Hid (SkE w2 (.slice aN n cN) (.slice aH m cH) s es) := FS.out.up U2.out
  replace FO : Hid (SkE w2 (.slice aM n cM) (.slice aG m cG) s es1) := FO.out.up U2.out
  replace KT1 : Hid (w2.heap[w1.heap.size]? = some (.cells #[.slice aM n cM, .slice aG m cG] 30)) := blk_up KT1.out U2.out
  have FT : Hid (SkE w2 (.slice aA t.nodes.length cA) (.slice aB t.head.length cB) t es2) := O2.out.1.read
  clear O2 U2
  obtain ⟨x2, hx2⟩ : ∃ x2, x2 = w2.alloc (.cells #[.slice aA t.nodes.length cA, .slice aB t.head.length cB] 30) := ⟨_, rfl⟩
  have HWE : Hid (w2.alloc (.cells #[.slice aA t.nodes.length cA, .slice aB t.head.length cB] 30) = x2) := hx2.symm
  have UU : Below w2.heap.size w2 x2 := by rw [hx2]; exact up_alloc _ _
  have KT2 : Hid (x2.heap[w2.heap.size]? = some (.cells #[.slice aA t.nodes.length cA, .slice aB t.head.length cB] 30)) := by rw [hx2]; exact blk_new _ _
  replace BE : Hid (Below w.heap.size w x2) := up_trans BE.out UU
  replace KB0 : Hid (x2.heap[w.heap.size]? = some (.cells #[.slice aN n cN, .slice aH m cH] 25)) := blk_up KB0.out UU
  replace KB1 : Hid (x2.heap[w.heap.size + 1]? = some (.cells #[.string x.key, .int .i64 x.seq, .int .i64 x.kind, .string x.val] 27)) := blk_up KB1.out UU
  replace FS : Hid (SkE x2 (.slice aN n cN) (.slice aH m cH) s es) := FS.out.up UU
  replace FO : Hid (SkE x2 (.slice aM n cM) (.slice aG m cG) s es1) := FO.out.up UU
  replace KT1 : Hid (x2.heap[w1.heap.size]? = some (.cells #[.slice aM n cM, .slice aG m cG] 30)) := blk_up KT1.out UU
  replace FT : Hid (SkE x2 (.slice aA t.nodes.length cA) (.slice aB t.head.length cB) t es2) := FT.out.up UU
  clear hx2 UU
  have e0 : (w2.alloc (.cells #[.slice aA t.nodes.length cA, .slice aB t.head.length cB] 30)).cell? ⟨w.heap.size, 0, none⟩ = some (.slice aN n cN) := by rw [HWE.out]; exact blk_cell KB0.out 0 _ rfl
  have e1 : (w2.alloc (.cells #[.slice aA t.nodes.length cA, .slice aB t.head.length cB] 30)).cell? ⟨w.heap.size, 1, none⟩ = some (.slice aH m cH) := by rw [HWE.out]; exact blk_cell KB0.out 1 _ rfl
  have e2 : (w2.alloc (.cells #[.slice aA t.nodes.length cA, .slice aB t.head.length cB] 30)).cell? ⟨w.heap.size + 1, 0, none⟩ = some (.string x.key) := by rw [HWE.out]; exact blk_cell KB1.out 0 _ rfl
  have e3 : (w2.alloc (.cells #[.slice aA t.nodes.length cA, .slice aB t.head.length cB] 30)).cell? ⟨w.heap.size + 1, 1, none⟩ = some (.int .i64 x.seq) := by rw [HWE.out]; exact blk_cell KB1.out 1 _ rfl
  have e4 : (w2.alloc (.cells #[.slice aA t.nodes.length cA, .slice aB t.head.length cB] 30)).cell? ⟨w.heap.size + 1, 2, none⟩ = some (.int .i64 x.kind) := by rw [HWE.out]; exact blk_cell KB1.out 2 _ rfl
  have e5 : (w2.alloc (.cells #[.slice aA t.nodes.length cA, .slice aB t.head.length cB] 30)).cell? ⟨w.heap.size + 1, 3, none⟩ = some (.string x.val) := by rw [HWE.out]; exact blk_cell KB1.out 3 _ rfl
  have HC := refPut_any s es _ _ x h x2 FS.out
  rw [HCO.out] at HC
  unfold enV at HC
  go_wp2_with fail
  rw [HWE.out]
  refine HC.mono ?_
  rintro e w3 ⟨vA3, vB3, rfl, ⟨t3, es3, O3⟩, U3⟩
  obtain rfl : t3 = t := O3.out.2.one HP1.out
  obtain ⟨⟨aA3, cA3, rfl⟩, ⟨aB3, cB3, rfl⟩⟩ := O3.out.1.read.form
  clear HC HWE e0 e1 e2 e3 e4 e5
  replace BE : Hid (Below w.heap.size w w3) := up_trans BE.out U3.out
  replace KB0 : Hid (w3.heap[w.heap.size]? = some (.cells #[.slice aN n cN, .slice aH m cH] 25)) := blk_up KB0.out U3.out
  replace KB1 : Hid (w3.heap[w.heap.size + 1]? = some (.cells #[.string x.key, .int .i64 x.seq, .int .i64 x.kind, .string x.val] 27)) := blk_up KB1.out U3.out
  replace FS : Hid (SkE w3 (.slice aN n cN) (.slice aH m cH) s es) := FS.out.up U3.out
  replace FO : Hid (SkE w3 (.slice aM n cM) (.slice aG m cG) s es1) := FO.out.up U3.out
  replace KT1 : Hid (w3.heap[w1.heap.size]? = some (.cells #[.slice aM n cM, .slice aG m cG] 30)) := blk_up KT1.out U3.out
  replace FT : Hid (SkE w3 (.slice aA t3.nodes.length cA) (.slice aB t3.head.length cB) t3 es2) := FT.out.up U3.out
  replace KT2 : Hid (w3.heap[w2.heap.size]? = some (.cells #[.slice aA t3.nodes.length cA, .slice aB t3.head.length cB] 30)) := blk_up KT2.out U3.out
  have FU : Hid (SkE w3 (.slice aA3 t3.nodes.length cA3) (.slice aB3 t3.head.length cB3) t3 es3) := O3.out.1.read
  clear O3 U3 HP1
  obtain ⟨x3, hx3⟩ : ∃ x3, x3 = w3.alloc (.cells #[.slice aA3 t3.nodes.length cA3, .slice aB3 t3.head.length cB3] 25) := ⟨_, rfl⟩
  have HWE : Hid (w3.alloc (.cells #[.slice aA3 t3.nodes.length cA3, .slice aB3 t3.head.length cB3] 25) = x3) := hx3.symm
  have UU : Below w3.heap.size w3 x3 := by rw [hx3]; exact up_alloc _ _
  have KT3 : Hid (x3.heap[w3.heap.size]? = some (.cells #[.slice aA3 t3.nodes.length cA3, .slice aB3 t3.head.length cB3] 25)) := by rw [hx3]; exact blk_new _ _
  replace BE : Hid (Below w.heap.size w x3) := up_trans BE.out UU
  replace KB0 : Hid (x3.heap[w.heap.size]? = some (.cells #[.slice aN n cN, .slice aH m cH] 25)) := blk_up KB0.out UU
  replace KB1 : Hid (x3.heap[w.heap.size + 1]? = some (.cells #[.string x.key, .int .i64 x.seq, .int .i64 x.kind, .string x.val] 27)) := blk_up KB1.out UU
  replace FS : Hid (SkE x3 (.slice aN n cN) (.slice aH m cH) s es) := FS.out.up UU
  replace FO : Hid (SkE x3 (.slice aM n cM) (.slice aG m cG) s es1) := FO.out.up UU
  replace KT1 : Hid (x3.heap[w1.heap.size]? = some (.cells #[.slice aM n cM, .slice aG m cG] 30)) := blk_up KT1.out UU
  replace FT : Hid (SkE x3 (.slice aA t3.nodes.length cA) (.slice aB t3.head.length cB) t3 es2) := FT.out.up UU
  replace KT2 : Hid (x3.heap[w2.heap.size]? = some (.cells #[.slice aA t3.nodes.length cA, .slice aB t3.head.length cB] 30)) := blk_up KT2.out UU
  replace FU : Hid (SkE x3 (.slice aA3 t3.nodes.length cA3) (.slice aB3 t3.head.length cB3) t3 es3) := FU.out.up UU
  clear hx3 UU
  have e0 : (w3.alloc (.cells #[.slice aA3 t3.nodes.length cA3, .slice aB3 t3.head.length cB3] 25)).cell? ⟨w1.heap.size, 0, none⟩ = some (.slice aM n cM) := by rw [HWE.out]; exact blk_cell KT1.out 0 _ rfl
  have e1 : (w3.alloc (.cells #[.slice aA3 t3.nodes.length cA3, .slice aB3 t3.head.length cB3] 25)).cell? ⟨w1.heap.size, 1, none⟩ = some (.slice aG m cG) := by rw [HWE.out]; exact blk_cell KT1.out 1 _ rfl
  have HC := get_any s es1 _ _ key seq x3 FO.out
  rw [HGV.out] at HC
  unfold enV at HC
  go_wp2_with fail
  rw [HWE.out]
  refine HC.mono ?_
  rintro e w4 ⟨rfl, U4⟩
  clear HC HWE e0 e1
  replace BE : Hid (Below w.heap.size w w4) := up_trans BE.out U4.out
  replace KB0 : Hid (w4.heap[w.heap.size]? = some (.cells #[.slice aN n cN, .slice aH m cH] 25)) := blk_up KB0.out U4.out
  replace KB1 : Hid (w4.heap[w.heap.size + 1]? = some (.cells #[.string x.key, .int .i64 x.seq, .int .i64 x.kind, .string x.val] 27)) := blk_up KB1.out U4.out
  replace FS : Hid (SkE w4 (.slice aN n cN) (.slice aH m cH) s es) := FS.out.up U4.out
  replace FO : Hid (SkE w4 (.slice aM n cM) (.slice aG m cG) s es1) := FO.out.up U4.out
  replace KT1 : Hid (w4.heap[w1.heap.size]? = some (.cells #[.slice aM n cM, .slice aG m cG] 30)) := blk_up KT1.out U4.out
  replace FT : Hid (SkE w4 (.slice aA t3.nodes.length cA) (.slice aB t3.head.length cB) t3 es2) := FT.out.up U4.out
  replace KT2 : Hid (w4.heap[w2.heap.size]? = some (.cells #[.slice aA t3.nodes.length cA, .slice aB t3.head.length cB] 30)) := blk_up KT2.out U4.out
  replace FU : Hid (SkE w4 (.slice aA3 t3.nodes.length cA3) (.slice aB3 t3.head.length cB3) t3 es3) := FU.out.up U4.out
  replace KT3 : Hid (w4.heap[w3.heap.size]? = some (.cells #[.slice aA3 t3.nodes.length cA3, .slice aB3 t3.head.length cB3] 25)) := blk_up KT3.out U4.out
  clear U4
  obtain ⟨x4, hx4⟩ : ∃ x4, x4 = w4.alloc (.cells #[.string gy.key, .int .i64 gy.seq, .int .i64 gy.kind, .string gy.val] 27) := ⟨_, rfl⟩
  have HWE : Hid (w4.alloc (.cells #[.string gy.key, .int .i64 gy.seq, .int .i64 gy.kind, .string gy.val] 27) = x4) := hx4.symm
  have UU : Below w4.heap.size w4 x4 := by rw [hx4]; exact up_alloc _ _
  have KT4 : Hid (x4.heap[w4.heap.size]? = some (.cells #[.string gy.key, .int .i64 gy.seq, .int .i64 gy.kind, .string gy.val] 27)) := by rw [hx4]; exact blk_new _ _
  replace BE : Hid (Below w.heap.size w x4) := up_trans BE.out UU
  replace KB0 : Hid (x4.heap[w.heap.size]? = some (.cells #[.slice aN n cN, .slice aH m cH] 25)) := blk_up KB0.out UU
  replace KB1 : Hid (x4.heap[w.heap.size + 1]? = some (.cells #[.string x.key, .int .i64 x.seq, .int .i64 x.kind, .string x.val] 27)) := blk_up KB1.out UU
  replace FS : Hid (SkE x4 (.slice aN n cN) (.slice aH m cH) s es) := FS.out.up UU
  replace FO : Hid (SkE x4 (.slice aM n cM) (.slice aG m cG) s es1) := FO.out.up UU
  replace KT1 : Hid (x4.heap[w1.heap.size]? = some (.cells #[.slice aM n cM, .slice aG m cG] 30)) := blk_up KT1.out UU
  replace FT : Hid (SkE x4 (.slice aA t3.nodes.length cA) (.slice aB t3.head.length cB) t3 es2) := FT.out.up UU
  replace KT2 : Hid (x4.heap[w2.heap.size]? = some (.cells #[.slice aA t3.nodes.length cA, .slice aB t3.head.length cB] 30)) := blk_up KT2.out UU
  replace FU : Hid (SkE x4 (.slice aA3 t3.nodes.length cA3) (.slice aB3 t3.head.length cB3) t3 es3) := FU.out.up UU
  replace KT3 : Hid (x4.heap[w3.heap.size]? = some (.cells #[.slice aA3 t3.nodes.length cA3, .slice aB3 t3.head.length cB3] 25)) := blk_up KT3.out UU
  clear hx4 UU
  have e0 : (w4.alloc (.cells #[.string gy.key, .int .i64 gy.seq, .int .i64 gy.kind, .string gy.val] 27)).cell? ⟨w.heap.size, 0, none⟩ = some (.slice aN n cN) := by rw [HWE.out]; exact blk_cell KB0.out 0 _ rfl
  have e1 : (w4.alloc (.cells #[.string gy.key, .int .i64 gy.seq, .int .i64 gy.kind, .string gy.val] 27)).cell? ⟨w.heap.size, 1, none⟩ = some (.slice aH m cH) := by rw [HWE.out]; exact blk_cell KB0.out 1 _ rfl
  have HC := refGet_any s es _ _ key seq x4 FS.out
  rw [HGV.out] at HC
  unfold enV at HC
  go_wp2_with fail
  rw [HWE.out]
  refine HC.mono ?_
  rintro e w5 ⟨rfl, U5⟩
  clear HC HWE e0 e1
  replace BE : Hid (Below w.heap.size w w5) := up_trans BE.out U5.out
  replace KB0 : Hid (w5.heap[w.heap.size]? = some (.cells #[.slice aN n cN, .slice aH m cH] 25)) := blk_up KB0.out U5.out
  replace KB1 : Hid (w5.heap[w.heap.size + 1]? = some (.cells #[.string x.key, .int .i64 x.seq, .int .i64 x.kind, .string x.val] 27)) := blk_up KB1.out U5.out
  replace FS : Hid (SkE w5 (.slice aN n cN) (.slice aH m cH) s es) := FS.out.up U5.out
  replace FO : Hid (SkE w5 (.slice aM n cM) (.slice aG m cG) s es1) := FO.out.up U5.out
  replace KT1 : Hid (w5.heap[w1.heap.size]? = some (.cells #[.slice aM n cM, .slice aG m cG] 30)) := blk_up KT1.out U5.out
  replace FT : Hid (SkE w5 (.slice aA t3.nodes.length cA) (.slice aB t3.head.length cB) t3 es2) := FT.out.up U5.out
  replace KT2 : Hid (w5.heap[w2.heap.size]? = some (.cells #[.slice aA t3.nodes.length cA, .slice aB t3.head.length cB] 30)) := blk_up KT2.out U5.out
  replace FU : Hid (SkE w5 (.slice aA3 t3.nodes.length cA3) (.slice aB3 t3.head.length cB3) t3 es3) := FU.out.up U5.out
  replace KT3 : Hid (w5.heap[w3.heap.size]? = some (.cells #[.slice aA3 t3.nodes.length cA3, .slice aB3 t3.head.length cB3] 25)) := blk_up KT3.out U5.out
  replace KT4 : Hid (w5.heap[w4.heap.size]? = some (.cells #[.string gy.key, .int .i64 gy.seq, .int .i64 gy.kind, .string gy.val] 27)) := blk_up KT4.out U5.out
  clear U5
  obtain ⟨x5, hx5⟩ : ∃ x5, x5 = w5.alloc (.cells #[.string gy.key, .int .i64 gy.seq, .int .i64 gy.kind, .string gy.val] 27) := ⟨_, rfl⟩
  have HWE : Hid (w5.alloc (.cells #[.string gy.key, .int .i64 gy.seq, .int .i64 gy.kind, .string gy.val] 27) = x5) := hx5.symm
  have UU : Below w5.heap.size w5 x5 := by rw [hx5]; exact up_alloc _ _
  have KT5 : Hid (x5.heap[w5.heap.size]? = some (.cells #[.string gy.key, .int .i64 gy.seq, .int .i64 gy.kind, .string gy.val] 27)) := by rw [hx5]; exact blk_new _ _
  replace BE : Hid (Below w.heap.size w x5) := up_trans BE.out UU
  replace KB0 : Hid (x5.heap[w.heap.size]? = some (.cells #[.slice aN n cN, .slice aH m cH] 25)) := blk_up KB0.out UU
  replace KB1 : Hid (x5.heap[w.heap.size + 1]? = some (.cells #[.string x.key, .int .i64 x.seq, .int .i64 x.kind, .string x.val] 27)) := blk_up KB1.out UU
  replace FS : Hid (SkE x5 (.slice aN n cN) (.slice aH m cH) s es) := FS.out.up UU
  replace FO : Hid (SkE x5 (.slice aM n cM) (.slice aG m cG) s es1) := FO.out.up UU
  replace KT1 : Hid (x5.heap[w1.heap.size]? = some (.cells #[.slice aM n cM, .slice aG m cG] 30)) := blk_up KT1.out UU
  replace FT : Hid (SkE x5 (.slice aA t3.nodes.length cA) (.slice aB t3.head.length cB) t3 es2) := FT.out.up UU
  replace KT2 : Hid (x5.heap[w2.heap.size]? = some (.cells #[.slice aA t3.nodes.length cA, .slice aB t3.head.length cB] 30)) := blk_up KT2.out UU
  replace FU : Hid (SkE x5 (.slice aA3 t3.nodes.length cA3) (.slice aB3 t3.head.length cB3) t3 es3) := FU.out.up UU
  replace KT3 : Hid (x5.heap[w3.heap.size]? = some (.cells #[.slice aA3 t3.nodes.length cA3, .slice aB3 t3.head.length cB3] 25)) := blk_up KT3.out UU
  replace KT4 : Hid (x5.heap[w4.heap.size]? = some (.cells #[.string gy.key, .int .i64 gy.seq, .int .i64 gy.kind, .string gy.val] 27)) := blk_up KT4.out UU
  clear hx5 UU
  have e0 : (w5.alloc (.cells #[.string gy.key, .int .i64 gy.seq, .int .i64 gy.kind, .string gy.val] 27)).cell? ⟨w1.heap.size, 0, none⟩ = some (.slice aM n cM) := by rw [HWE.out]; exact blk_cell KT1.out 0 _ rfl
  have e1 : (w5.alloc (.cells #[.string gy.key, .int .i64 gy.seq, .int .i64 gy.kind, .string gy.val] 27)).cell? ⟨w1.heap.size, 1, none⟩ = some (.slice aG m cG) := by rw [HWE.out]; exact blk_cell KT1.out 1 _ rfl
  have HC := all_any s es1 _ _ x5 FO.out
  rw [HEC.out] at HC
  go_wp2_with fail
  rw [HWE.out]
  refine HC.mono ?_
  rintro e w6 ⟨aL, nL, cL, rfl, O6, U6⟩
  clear HC HWE e0 e1
  replace BE : Hid (Below w.heap.size w w6) := up_trans BE.out U6.out
  replace KB0 : Hid (w6.heap[w.heap.size]? = some (.cells #[.slice aN n cN, .slice aH m cH] 25)) := blk_up KB0.out U6.out
  replace KB1 : Hid (w6.heap[w.heap.size + 1]? = some (.cells #[.string x.key, .int .i64 x.seq, .int .i64 x.kind, .string x.val] 27)) := blk_up KB1.out U6.out
  replace FS : Hid (SkE w6 (.slice aN n cN) (.slice aH m cH) s es) := FS.out.up U6.out
  replace FO : Hid (SkE w6 (.slice aM n cM) (.slice aG m cG) s es1) := FO.out.up U6.out
  replace KT1 : Hid (w6.heap[w1.heap.size]? = some (.cells #[.slice aM n cM, .slice aG m cG] 30)) := blk_up KT1.out U6.out
  replace FT : Hid (SkE w6 (.slice aA t3.nodes.length cA) (.slice aB t3.head.length cB) t3 es2) := FT.out.up U6.out
  replace KT2 : Hid (w6.heap[w2.heap.size]? = some (.cells #[.slice aA t3.nodes.length cA, .slice aB t3.head.length cB] 30)) := blk_up KT2.out U6.out
  replace FU : Hid (SkE w6 (.slice aA3 t3.nodes.length cA3) (.slice aB3 t3.head.length cB3) t3 es3) := FU.out.up U6.out
  replace KT3 : Hid (w6.heap[w3.heap.size]? = some (.cells #[.slice aA3 t3.nodes.length cA3, .slice aB3 t3.head.length cB3] 25)) := blk_up KT3.out U6.out
  replace KT4 : Hid (w6.heap[w4.heap.size]? = some (.cells #[.string gy.key, .int .i64 gy.seq, .int .i64 gy.kind, .string gy.val] 27)) := blk_up KT4.out U6.out
  replace KT5 : Hid (w6.heap[w5.heap.size]? = some (.cells #[.string gy.key, .int .i64 gy.seq, .int .i64 gy.kind, .string gy.val] 27)) := blk_up KT5.out U6.out
  have FL : Hid (EntsR w6 (.slice aL nL cL) (allV s)) := Rws.own O6.out.2
  clear O6 U6
  have HWE : Hid (w6 = w6) := rfl
  have e0 : (w6).cell? ⟨w.heap.size, 0, none⟩ = some (.slice aN n cN) := by exact blk_cell KB0.out 0 _ rfl
  have e1 : (w6).cell? ⟨w.heap.size, 1, none⟩ = some (.slice aH m cH) := by exact blk_cell KB0.out 1 _ rfl
  have HC := refAll_any s es _ _ w6 FS.out
  rw [HEC.out] at HC
  go_wp2_with fail
  refine HC.mono ?_
  rintro e w7 ⟨aK, nK, cK, rfl, O7, U7⟩
  clear HC HWE e0 e1
  replace BE : Hid (Below w.heap.size w w7) := up_trans BE.out U7.out
  replace KB0 : Hid (w7.heap[w.heap.size]? = some (.cells #[.slice aN n cN, .slice aH m cH] 25)) := blk_up KB0.out U7.out
  replace KB1 : Hid (w7.heap[w.heap.size + 1]? = some (.cells #[.string x.key, .int .i64 x.seq, .int .i64 x.kind, .string x.val] 27)) := blk_up KB1.out U7.out
  replace FS : Hid (SkE w7 (.slice aN n cN) (.slice aH m cH) s es) := FS.out.up U7.out
  replace FO : Hid (SkE w7 (.slice aM n cM) (.slice aG m cG) s es1) := FO.out.up U7.out
  replace KT1 : Hid (w7.heap[w1.heap.size]? = some (.cells #[.slice aM n cM, .slice aG m cG] 30)) := blk_up KT1.out U7.out
  replace FT : Hid (SkE w7 (.slice aA t3.nodes.length cA) (.slice aB t3.head.length cB) t3 es2) := FT.out.up U7.out
  replace KT2 : Hid (w7.heap[w2.heap.size]? = some (.cells #[.slice aA t3.nodes.length cA, .slice aB t3.head.length cB] 30)) := blk_up KT2.out U7.out
  replace FU : Hid (SkE w7 (.slice aA3 t3.nodes.length cA3) (.slice aB3 t3.head.length cB3) t3 es3) := FU.out.up U7.out
  replace KT3 : Hid (w7.heap[w3.heap.size]? = some (.cells #[.slice aA3 t3.nodes.length cA3, .slice aB3 t3.head.length cB3] 25)) := blk_up KT3.out U7.out
  replace KT4 : Hid (w7.heap[w4.heap.size]? = some (.cells #[.string gy.key, .int .i64 gy.seq, .int .i64 gy.kind, .string gy.val] 27)) := blk_up KT4.out U7.out
  replace KT5 : Hid (w7.heap[w5.heap.size]? = some (.cells #[.string gy.key, .int .i64 gy.seq, .int .i64 gy.kind, .string gy.val] 27)) := blk_up KT5.out U7.out
  replace FL : Hid (EntsR w7 (.slice aL nL cL) (allV s)) := FL.out.up U7.out
  have FK : Hid (EntsR w7 (.slice aK nK cK) (allV s)) := Rws.own O7.out.2
  clear O7 U7
  have HWE : Hid (w7 = w7) := rfl
  have e0 : (w7).cell? ⟨w2.heap.size, 0, none⟩ = some (.slice aA t3.nodes.length cA) := by exact blk_cell KT2.out 0 _ rfl
  have e1 : (w7).cell? ⟨w2.heap.size, 1, none⟩ = some (.slice aB t3.head.length cB) := by exact blk_cell KT2.out 1 _ rfl
  have e2 : (w7).cell? ⟨w3.heap.size, 0, none⟩ = some (.slice aA3 t3.nodes.length cA3) := by exact blk_cell KT3.out 0 _ rfl
  have e3 : (w7).cell? ⟨w3.heap.size, 1, none⟩ = some (.slice aB3 t3.head.length cB3) := by exact blk_cell KT3.out 1 _ rfl
  have HC := same_self t3 es2 es3 _ _ _ _ w7 FT.out FU.out
  go_wp2_with fail
  refine HC.mono ?_
  rintro e w8 ⟨rfl, U8⟩
  clear HC HWE e0 e1 e2 e3
  replace BE : Hid (Below w.heap.size w w8) := up_trans BE.out U8.out
  replace KB0 : Hid (w8.heap[w.heap.size]? = some (.cells #[.slice aN n cN, .slice aH m cH] 25)) := blk_up KB0.out U8.out
  replace KB1 : Hid (w8.heap[w.heap.size + 1]? = some (.cells #[.string x.key, .int .i64 x.seq, .int .i64 x.kind, .string x.val] 27)) := blk_up KB1.out U8.out
  replace FS : Hid (SkE w8 (.slice aN n cN) (.slice aH m cH) s es) := FS.out.up U8.out
  replace FO : Hid (SkE w8 (.slice aM n cM) (.slice aG m cG) s es1) := FO.out.up U8.out
  replace KT1 : Hid (w8.heap[w1.heap.size]? = some (.cells #[.slice aM n cM, .slice aG m cG] 30)) := blk_up KT1.out U8.out
  replace FT : Hid (SkE w8 (.slice aA t3.nodes.length cA) (.slice aB t3.head.length cB) t3 es2) := FT.out.up U8.out
  replace KT2 : Hid (w8.heap[w2.heap.size]? = some (.cells #[.slice aA t3.nodes.length cA, .slice aB t3.head.length cB] 30)) := blk_up KT2.out U8.out
  replace FU : Hid (SkE w8 (.slice aA3 t3.nodes.length cA3) (.slice aB3 t3.head.length cB3) t3 es3) := FU.out.up U8.out
  replace KT3 : Hid (w8.heap[w3.heap.size]? = some (.cells #[.slice aA3 t3.nodes.length cA3, .slice aB3 t3.head.length cB3] 25)) := blk_up KT3.out U8.out
  replace KT4 : Hid (w8.heap[w4.heap.size]? = some (.cells #[.string gy.key, .int .i64 gy.seq, .int .i64 gy.kind, .string gy.val] 27)) := blk_up KT4.out U8.out
  replace KT5 : Hid (w8.heap[w5.heap.size]? = some (.cells #[.string gy.key, .int .i64 gy.seq, .int .i64 gy.kind, .string gy.val] 27)) := blk_up KT5.out U8.out
  replace FL : Hid (EntsR w8 (.slice aL nL cL) (allV s)) := FL.out.up U8.out
  replace FK : Hid (EntsR w8 (.slice aK nK cK) (allV s)) := FK.out.up U8.out
  clear U8
  have HN : Hid (∀ (c : Int) (X : World), Calls Try.prog 16 #[.int .i64 c] X fun e w' => e = .returned (.int .i64 c) ∧ w' = X) := fun c X => num_any c X
  have HWE : Hid (w8 = w8) := rfl
  have ncc : ∀ c : Int, (c != c) = false := fun c => by simp
  go_wp2_with fail
  refine (HN.out CO _).mono ?_
  rintro e wn ⟨rfl, hwn⟩
  rw [hwn]
  clear hwn wn
  have e0 : (w8).cell? ⟨w4.heap.size, 0, none⟩ = some (.string gy.key) := by exact blk_cell KT4.out 0 _ rfl
  have e1 : (w8).cell? ⟨w4.heap.size, 1, none⟩ = some (.int .i64 gy.seq) := by exact blk_cell KT4.out 1 _ rfl
  have e2 : (w8).cell? ⟨w4.heap.size, 2, none⟩ = some (.int .i64 gy.kind) := by exact blk_cell KT4.out 2 _ rfl
  have e3 : (w8).cell? ⟨w4.heap.size, 3, none⟩ = some (.string gy.val) := by exact blk_cell KT4.out 3 _ rfl
  have e4 : (w8).cell? ⟨w5.heap.size, 0, none⟩ = some (.string gy.key) := by exact blk_cell KT5.out 0 _ rfl
  have e5 : (w8).cell? ⟨w5.heap.size, 1, none⟩ = some (.int .i64 gy.seq) := by exact blk_cell KT5.out 1 _ rfl
  have e6 : (w8).cell? ⟨w5.heap.size, 2, none⟩ = some (.int .i64 gy.kind) := by exact blk_cell KT5.out 2 _ rfl
  have e7 : (w8).cell? ⟨w5.heap.size, 3, none⟩ = some (.string gy.val) := by exact blk_cell KT5.out 3 _ rfl
  go_wp2_with fail
  refine (HN.out gc _).mono ?_
  rintro e wn ⟨rfl, hwn⟩
  rw [hwn]
  clear hwn wn
  clear e0 e1 e2 e3 e4 e5 e6 e7
  have HC := sameEnts_self (allV s) _ _ w8 FL.out FK.out
  go_wp2_with fail
  refine HC.mono ?_
  rintro e w9 ⟨rfl, d, hw9⟩
  have U9 : Hid (Below w8.heap.size w8 w9) := by rw [hw9]; exact below_drewN (Below.refl _ _) d
  clear HC hw9 HWE
  replace BE : Hid (Below w.heap.size w w9) := up_trans BE.out U9.out
  replace KB0 : Hid (w9.heap[w.heap.size]? = some (.cells #[.slice aN n cN, .slice aH m cH] 25)) := blk_up KB0.out U9.out
  replace KB1 : Hid (w9.heap[w.heap.size + 1]? = some (.cells #[.string x.key, .int .i64 x.seq, .int .i64 x.kind, .string x.val] 27)) := blk_up KB1.out U9.out
  replace FS : Hid (SkE w9 (.slice aN n cN) (.slice aH m cH) s es) := FS.out.up U9.out
  replace FO : Hid (SkE w9 (.slice aM n cM) (.slice aG m cG) s es1) := FO.out.up U9.out
  replace KT1 : Hid (w9.heap[w1.heap.size]? = some (.cells #[.slice aM n cM, .slice aG m cG] 30)) := blk_up KT1.out U9.out
  replace FT : Hid (SkE w9 (.slice aA t3.nodes.length cA) (.slice aB t3.head.length cB) t3 es2) := FT.out.up U9.out
  replace KT2 : Hid (w9.heap[w2.heap.size]? = some (.cells #[.slice aA t3.nodes.length cA, .slice aB t3.head.length cB] 30)) := blk_up KT2.out U9.out
  replace FU : Hid (SkE w9 (.slice aA3 t3.nodes.length cA3) (.slice aB3 t3.head.length cB3) t3 es3) := FU.out.up U9.out
  replace KT3 : Hid (w9.heap[w3.heap.size]? = some (.cells #[.slice aA3 t3.nodes.length cA3, .slice aB3 t3.head.length cB3] 25)) := blk_up KT3.out U9.out
  replace KT4 : Hid (w9.heap[w4.heap.size]? = some (.cells #[.string gy.key, .int .i64 gy.seq, .int .i64 gy.kind, .string gy.val] 27)) := blk_up KT4.out U9.out
  replace KT5 : Hid (w9.heap[w5.heap.size]? = some (.cells #[.string gy.key, .int .i64 gy.seq, .int .i64 gy.kind, .string gy.val] 27)) := blk_up KT5.out U9.out
  replace FL : Hid (EntsR w9 (.slice aL nL cL) (allV s)) := FL.out.up U9.out
  replace FK : Hid (EntsR w9 (.slice aK nK cK) (allV s)) := FK.out.up U9.out
  go_wp2_with fail
  refine (HN.out EC _).mono ?_
  rintro e wn ⟨rfl, hwn⟩
  rw [hwn]
  clear hwn wn
  clear U9
  have c0 := cell_up (show w9.cell? ⟨w1.heap.size, 0, none⟩ = some (.slice aM n cM) from blk_cell KT1.out 0 _ rfl)
  have c1 := cell_up (show w9.cell? ⟨w1.heap.size, 1, none⟩ = some (.slice aG m cG) from blk_cell KT1.out 1 _ rfl)
  have c2 := cell_up (show w9.cell? ⟨w.heap.size, 0, none⟩ = some (.slice aN n cN) from blk_cell KB0.out 0 _ rfl)
  have c3 := cell_up (show w9.cell? ⟨w.heap.size, 1, none⟩ = some (.slice aH m cH) from blk_cell KB0.out 1 _ rfl)
  have H18 : Hid (∀ q : UpW w9, Calls Try.prog 18 #[.agg #[.slice aM n cM, .slice aG m cG]] q.val fun e w' => e = .returned (.int .i64 EC) ∧ Below q.val.heap.size q.val w') := by
    intro q
    have := check_any s es1 _ _ q.val (FO.out.up q.up)
    rw [HEC.out] at this
    exact this
  have H19 : Hid (∀ q : UpW w9, Calls Try.prog 19 #[.agg #[.slice aN n cN, .slice aH m cH]] q.val fun e w' => e = .returned (.int .i64 EC) ∧ Below q.val.heap.size q.val w') := by
    intro q
    have := refCheck_any s es _ _ q.val (FS.out.up q.up)
    rw [HEC.out] at this
    exact this
  have H15 : Hid (∀ q : UpW w9, Calls Try.prog 15 #[.agg #[.slice aM n cM, .slice aG m cG], .agg #[.slice aN n cN, .slice aH m cH]] q.val fun e w' => e = .returned (.bool true) ∧ Below q.val.heap.size q.val w') := fun q => same_self s es1 es _ _ _ _ q.val (FO.out.up q.up) (FS.out.up q.up)
  have H16 : Hid (∀ q : UpW w9, Calls Try.prog 16 #[.int .i64 EC] q.val fun e w' => e = .returned (.int .i64 EC) ∧ Below q.val.heap.size q.val w') := fun q => (num_any EC q.val).mono (fun _ _ hh => ⟨hh.1, by rw [hh.2]; exact Below.refl _ _⟩)
  go_upto_region 10 with fail
  refine wp_region_up (by kernel_rfl) (by kernel_rfl) ?_
  repeat (quiet_step (first
    | (go_at_call 18; refine calls_up (H18.out _))
    | (go_at_call 16; refine calls_up (H16.out _))
    | (go_at_call 19; refine calls_up (H19.out _))
    | (go_at_call 15; refine calls_up (H15.out _))
    | (go_at_call 20; refine calls_up (aliveP _))))
  refine wpQuiet_nil ?_
  intro _ hw'
  obtain ⟨q, hw''⟩ := hw'
  subst hw''
  go_wp2
  go_ret
  exact ⟨by simp, up_trans BE.out q.up⟩
end Go.Proofs.Ytmiokopnhkojoaa
