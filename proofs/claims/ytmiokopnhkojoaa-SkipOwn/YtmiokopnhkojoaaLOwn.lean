/- SkipOwn, walked. -/
import Derived.Test.YtmiokopnhkojoaaRPut
import Derived.Test.YtmiokopnhkojoaaPOwn
import Derived.Test.YtmiokopnhkojoaaLOf
import Derived.Test.YtmiokopnhkojoaaLSame
import Derived.Test.YtmiokopnhkojoaaLDraws
namespace Go.Proofs.Ytmiokopnhkojoaa
open Go.RowKit
set_option linter.unusedVariables false
set_option linter.unusedSimpArgs false

set_option maxHeartbeats 8000000 in
set_option maxRecDepth 100000 in
theorem own_walk (s : Sk) (es : List (En × Value)) (vN vH : Value) (x : En) (h : Int) (w : World) (hV : SkE w vN vH s es) (hbig : SkBig s) :
    Calls Try.prog 7 #[.agg #[vN, vH], enV x, .int .i64 h] w fun e w' => e = .returned (.bool true) ∧ Below w.heap.size w w' := by
  obtain ⟨⟨aN, cN, rfl⟩, ⟨aH, cH, rfl⟩⟩ := hV.form
  have HBIG : Hid (SkBig s) := hbig
  obtain ⟨CO, hCO⟩ : ∃ CO, errP s x h = CO := ⟨_, rfl⟩
  have HCO : Hid (errP s x h = CO) := hCO
  clear hCO
  generalize hn : s.nodes.length = n at *
  generalize hm : s.head.length = m at *
  have HNM : Hid (s.nodes.length = n ∧ s.head.length = m) := ⟨hn, hm⟩
  clear hn hm
  unfold enV
  obtain ⟨W, hW⟩ : ∃ W, W = (w.alloc (.cells #[.slice aN n cN, .slice aH m cH] 25)).alloc (.cells #[.string x.key, .int .i64 x.seq, .int .i64 x.kind, .string x.val] 27) := ⟨_, rfl⟩
  have HWE : Hid ((w.alloc (.cells #[.slice aN n cN, .slice aH m cH] 25)).alloc (.cells #[.string x.key, .int .i64 x.seq, .int .i64 x.kind, .string x.val] 27) = W) := hW.symm
  have BE : Hid (Below w.heap.size w W) := by rw [hW]; exact up_al (up_al (Below.refl _ _) _) _
  have KB0 : Hid (W.heap[w.heap.size]? = some (.cells #[.slice aN n cN, .slice aH m cH] 25)) := by rw [hW]; exact blk_up (blk_new w _) (up_alloc _ _)
  have KB1 : Hid (W.heap[w.heap.size + 1]? = some (.cells #[.string x.key, .int .i64 x.seq, .int .i64 x.kind, .string x.val] 27)) := by
    have := blk_new (w.alloc (.cells #[.slice aN n cN, .slice aH m cH] 25)) (.cells #[.string x.key, .int .i64 x.seq, .int .i64 x.kind, .string x.val] 27)
    have e : (w.alloc (.cells #[.slice aN n cN, .slice aH m cH] 25)).heap.size = w.heap.size + 1 := by simp
    rw [e, ← hW] at this
    exact this
  have FS : Hid (SkE W (.slice aN n cN) (.slice aH m cH) s es) := hV.up BE.out
  clear hW hV hbig
  go_enter Try.func7, Try.ntmps7
  have HC := alive_any W
  go_wp2_with fail
  rw [HWE.out]
  refine HC.mono ?_
  rintro e w0 ⟨rfl, U0⟩
  clear HC HWE
  replace BE : Hid (Below w.heap.size w w0) := up_trans BE.out U0.out
  replace KB0 : Hid (w0.heap[w.heap.size]? = some (.cells #[.slice aN n cN, .slice aH m cH] 25)) := blk_up KB0.out U0.out
  replace KB1 : Hid (w0.heap[w.heap.size + 1]? = some (.cells #[.string x.key, .int .i64 x.seq, .int .i64 x.kind, .string x.val] 27)) := blk_up KB1.out U0.out
  replace FS : Hid (SkE w0 (.slice aN n cN) (.slice aH m cH) s es) := FS.out.up U0.out
  clear U0
  have HWE : Hid (w0.heap.size = w0.heap.size) := rfl
  have e0 : (w0).cell? ⟨w.heap.size, 0, none⟩ = some (.slice aN n cN) := by exact blk_cell KB0.out 0 _ rfl
  have e1 : (w0).cell? ⟨w.heap.size, 1, none⟩ = some (.slice aH m cH) := by exact blk_cell KB0.out 1 _ rfl
  have HC := of_any s es _ _ w0 FS.out HBIG.out
  go_wp2_with fail
  refine HC.mono ?_
  rintro e w1 ⟨vM, vG, rfl, ⟨es1, O1⟩, U1⟩
  obtain ⟨⟨aM, cM, rfl⟩, ⟨aG, cG, rfl⟩⟩ := O1.out.read.form
  rw [HNM.out.1, HNM.out.2] at O1 ⊢
  have BW0 : Hid (w.heap.size ≤ w0.heap.size) := BE.out.size
  clear HC HWE e0 e1
  replace BE : Hid (Below w.heap.size w w1) := up_trans BE.out U1.out
  replace KB0 : Hid (w1.heap[w.heap.size]? = some (.cells #[.slice aN n cN, .slice aH m cH] 25)) := blk_up KB0.out U1.out
  replace KB1 : Hid (w1.heap[w.heap.size + 1]? = some (.cells #[.string x.key, .int .i64 x.seq, .int .i64 x.kind, .string x.val] 27)) := blk_up KB1.out U1.out
  replace FS : Hid (SkE w1 (.slice aN n cN) (.slice aH m cH) s es) := FS.out.up U1.out
  have FO : Hid (OwnSk w1 w0.heap.size 62 (.slice aM n cM) (.slice aG m cG) s es1) := O1.out
  have B1 : Hid (Below w1.heap.size w1 w1) := Below.refl _ _
  clear O1 U1
  obtain ⟨x1, hx1⟩ : ∃ x1, x1 = w1.alloc (.cells #[.slice aM n cM, .slice aG m cG] 30) := ⟨_, rfl⟩
  have HWE : Hid (w1.alloc (.cells #[.slice aM n cM, .slice aG m cG] 30) = x1) := hx1.symm
  have UU : Below w1.heap.size w1 x1 := by rw [hx1]; exact up_alloc _ _
  have KT1 : Hid (x1.heap[w1.heap.size]? = some (.cells #[.slice aM n cM, .slice aG m cG] 30)) := by rw [hx1]; exact blk_new _ _
  have S1 : Hid (x1.heap.size = w1.heap.size + 1) := by rw [hx1]; unfold Hid; simp
  replace BE : Hid (Below w.heap.size w x1) := up_trans BE.out UU
  replace KB0 : Hid (x1.heap[w.heap.size]? = some (.cells #[.slice aN n cN, .slice aH m cH] 25)) := blk_up KB0.out UU
  replace KB1 : Hid (x1.heap[w.heap.size + 1]? = some (.cells #[.string x.key, .int .i64 x.seq, .int .i64 x.kind, .string x.val] 27)) := blk_up KB1.out UU
  replace FS : Hid (SkE x1 (.slice aN n cN) (.slice aH m cH) s es) := FS.out.up UU
  replace B1 : Hid (Below w1.heap.size w1 x1) := up_trans B1.out UU
  clear hx1 UU
  have e0 : (w1.alloc (.cells #[.slice aM n cM, .slice aG m cG] 30)).cell? ⟨w1.heap.size, 0, none⟩ = some (.slice aM n cM) := by rw [HWE.out]; exact blk_cell KT1.out 0 _ rfl
  have e1 : (w1.alloc (.cells #[.slice aM n cM, .slice aG m cG] 30)).cell? ⟨w1.heap.size, 1, none⟩ = some (.slice aG m cG) := by rw [HWE.out]; exact blk_cell KT1.out 1 _ rfl
  have e2 : (w1.alloc (.cells #[.slice aM n cM, .slice aG m cG] 30)).cell? ⟨w.heap.size + 1, 0, none⟩ = some (.string x.key) := by rw [HWE.out]; exact blk_cell KB1.out 0 _ rfl
  have e3 : (w1.alloc (.cells #[.slice aM n cM, .slice aG m cG] 30)).cell? ⟨w.heap.size + 1, 1, none⟩ = some (.int .i64 x.seq) := by rw [HWE.out]; exact blk_cell KB1.out 1 _ rfl
  have e4 : (w1.alloc (.cells #[.slice aM n cM, .slice aG m cG] 30)).cell? ⟨w.heap.size + 1, 2, none⟩ = some (.int .i64 x.kind) := by rw [HWE.out]; exact blk_cell KB1.out 2 _ rfl
  have e5 : (w1.alloc (.cells #[.slice aM n cM, .slice aG m cG] 30)).cell? ⟨w.heap.size + 1, 3, none⟩ = some (.string x.val) := by rw [HWE.out]; exact blk_cell KB1.out 3 _ rfl
  have HC := put_any s es1 _ _ x h x1 (FO.out.read.up B1.out)
  rw [HCO.out] at HC
  unfold enV at HC
  go_wp2_with fail
  rw [HWE.out]
  refine HC.mono ?_
  rintro e w2 ⟨vA, vB, t, es2, rfl, O2, U2⟩
  obtain ⟨⟨aA, cA, rfl⟩, ⟨aB, cB, rfl⟩⟩ := O2.out.1.read.form
  have HP1 : Hid (IsPut s x h t) := O2.out.2
  have S2 : Hid (x1.heap.size ≤ w2.heap.size) := U2.out.size
  clear HC HWE e0 e1 e2 e3 e4 e5
  replace BE : Hid (Below w.heap.size w w2) := up_trans BE.out U2.out
  replace KB0 : Hid (w2.heap[w.heap.size]? = some (.cells #[.slice aN n cN, .slice aH m cH] 25)) := blk_up KB0.out U2.out
  replace KB1 : Hid (w2.heap[w.heap.size + 1]? = some (.cells #[.string x.key, .int .i64 x.seq, .int .i64 x.kind, .string x.val] 27)) := blk_up KB1.out U2.out
  replace FS : Hid (SkE w2 (.slice aN n cN) (.slice aH m cH) s es) := FS.out.up U2.out
  replace B1 : Hid (Below w1.heap.size w1 w2) := up_trans B1.out U2.out
  replace KT1 : Hid (w2.heap[w1.heap.size]? = some (.cells #[.slice aM n cM, .slice aG m cG] 30)) := blk_up KT1.out U2.out
  have FT : Hid (OwnSk w2 x1.heap.size 62 (.slice aA t.nodes.length cA) (.slice aB t.head.length cB) t es2) := O2.out.1
  clear O2 U2
  obtain ⟨x2, hx2⟩ : ∃ x2, x2 = w2.alloc (.cells #[.slice aA t.nodes.length cA, .slice aB t.head.length cB] 30) := ⟨_, rfl⟩
  have HWE : Hid (w2.alloc (.cells #[.slice aA t.nodes.length cA, .slice aB t.head.length cB] 30) = x2) := hx2.symm
  have UU : Below w2.heap.size w2 x2 := by rw [hx2]; exact up_alloc _ _
  have KT2 : Hid (x2.heap[w2.heap.size]? = some (.cells #[.slice aA t.nodes.length cA, .slice aB t.head.length cB] 30)) := by rw [hx2]; exact blk_new _ _
  have S3 : Hid (x2.heap.size = w2.heap.size + 1) := by rw [hx2]; unfold Hid; simp
  replace BE : Hid (Below w.heap.size w x2) := up_trans BE.out UU
  replace KB0 : Hid (x2.heap[w.heap.size]? = some (.cells #[.slice aN n cN, .slice aH m cH] 25)) := blk_up KB0.out UU
  replace KB1 : Hid (x2.heap[w.heap.size + 1]? = some (.cells #[.string x.key, .int .i64 x.seq, .int .i64 x.kind, .string x.val] 27)) := blk_up KB1.out UU
  replace FS : Hid (SkE x2 (.slice aN n cN) (.slice aH m cH) s es) := FS.out.up UU
  replace B1 : Hid (Below w1.heap.size w1 x2) := up_trans B1.out UU
  replace KT1 : Hid (x2.heap[w1.heap.size]? = some (.cells #[.slice aM n cM, .slice aG m cG] 30)) := blk_up KT1.out UU
  replace FT : Hid (OwnSk x2 x1.heap.size 62 (.slice aA t.nodes.length cA) (.slice aB t.head.length cB) t es2) := FT.out.up UU
  clear hx2 UU
  have e0 : (w2.alloc (.cells #[.slice aA t.nodes.length cA, .slice aB t.head.length cB] 30)).cell? ⟨w.heap.size, 0, none⟩ = some (.slice aN n cN) := by rw [HWE.out]; exact blk_cell KB0.out 0 _ rfl
  have e1 : (w2.alloc (.cells #[.slice aA t.nodes.length cA, .slice aB t.head.length cB] 30)).cell? ⟨w.heap.size, 1, none⟩ = some (.slice aH m cH) := by rw [HWE.out]; exact blk_cell KB0.out 1 _ rfl
  have e2 : (w2.alloc (.cells #[.slice aA t.nodes.length cA, .slice aB t.head.length cB] 30)).cell? ⟨w.heap.size + 1, 0, none⟩ = some (.string x.key) := by rw [HWE.out]; exact blk_cell KB1.out 0 _ rfl
  have e3 : (w2.alloc (.cells #[.slice aA t.nodes.length cA, .slice aB t.head.length cB] 30)).cell? ⟨w.heap.size + 1, 1, none⟩ = some (.int .i64 x.seq) := by rw [HWE.out]; exact blk_cell KB1.out 1 _ rfl
  have e4 : (w2.alloc (.cells #[.slice aA t.nodes.length cA, .slice aB t.head.length cB] 30)).cell? ⟨w.heap.size + 1, 2, none⟩ = some (.int .i64 x.kind) := by rw [HWE.out]; exact blk_cell KB1.out 2 _ rfl
  have e5 : (w2.alloc (.cells #[.slice aA t.nodes.length cA, .slice aB t.head.length cB] 30)).cell? ⟨w.heap.size + 1, 3, none⟩ = some (.string x.val) := by rw [HWE.out]; exact blk_cell KB1.out 3 _ rfl
  have HC := refPut_any s es _ _ x h x2 FS.out
  rw [HCO.out] at HC
  unfold enV at HC
  go_wp2_with fail
  rw [HWE.out]
  refine HC.mono ?_
  rintro e w3 ⟨vA3, vB3, rfl, ⟨t3, es3, O3⟩, U3⟩
  obtain rfl : t3 = t := O3.out.2.one HP1.out
  obtain ⟨⟨aA3, cA3, rfl⟩, ⟨aB3, cB3, rfl⟩⟩ := O3.out.1.read.form
  have S4 : Hid (x2.heap.size ≤ w3.heap.size) := U3.out.size
  clear HC HWE e0 e1 e2 e3 e4 e5
  replace BE : Hid (Below w.heap.size w w3) := up_trans BE.out U3.out
  replace KB0 : Hid (w3.heap[w.heap.size]? = some (.cells #[.slice aN n cN, .slice aH m cH] 25)) := blk_up KB0.out U3.out
  replace KB1 : Hid (w3.heap[w.heap.size + 1]? = some (.cells #[.string x.key, .int .i64 x.seq, .int .i64 x.kind, .string x.val] 27)) := blk_up KB1.out U3.out
  replace FS : Hid (SkE w3 (.slice aN n cN) (.slice aH m cH) s es) := FS.out.up U3.out
  replace B1 : Hid (Below w1.heap.size w1 w3) := up_trans B1.out U3.out
  replace KT1 : Hid (w3.heap[w1.heap.size]? = some (.cells #[.slice aM n cM, .slice aG m cG] 30)) := blk_up KT1.out U3.out
  replace FT : Hid (OwnSk w3 x1.heap.size 62 (.slice aA t3.nodes.length cA) (.slice aB t3.head.length cB) t3 es2) := FT.out.up U3.out
  replace KT2 : Hid (w3.heap[w2.heap.size]? = some (.cells #[.slice aA t3.nodes.length cA, .slice aB t3.head.length cB] 30)) := blk_up KT2.out U3.out
  have FU : Hid (OwnSk w3 x2.heap.size 65 (.slice aA3 t3.nodes.length cA3) (.slice aB3 t3.head.length cB3) t3 es3) := O3.out.1
  clear O3 U3 HP1
  obtain ⟨x3, hx3⟩ : ∃ x3, x3 = w3.alloc (.cells #[.slice aA3 t3.nodes.length cA3, .slice aB3 t3.head.length cB3] 25) := ⟨_, rfl⟩
  have HWE : Hid (w3.alloc (.cells #[.slice aA3 t3.nodes.length cA3, .slice aB3 t3.head.length cB3] 25) = x3) := hx3.symm
  have UU : Below w3.heap.size w3 x3 := by rw [hx3]; exact up_alloc _ _
  have KT3 : Hid (x3.heap[w3.heap.size]? = some (.cells #[.slice aA3 t3.nodes.length cA3, .slice aB3 t3.head.length cB3] 25)) := by rw [hx3]; exact blk_new _ _
  have S5 : Hid (x3.heap.size = w3.heap.size + 1) := by rw [hx3]; unfold Hid; simp
  replace BE : Hid (Below w.heap.size w x3) := up_trans BE.out UU
  replace KB0 : Hid (x3.heap[w.heap.size]? = some (.cells #[.slice aN n cN, .slice aH m cH] 25)) := blk_up KB0.out UU
  replace KB1 : Hid (x3.heap[w.heap.size + 1]? = some (.cells #[.string x.key, .int .i64 x.seq, .int .i64 x.kind, .string x.val] 27)) := blk_up KB1.out UU
  replace FS : Hid (SkE x3 (.slice aN n cN) (.slice aH m cH) s es) := FS.out.up UU
  replace B1 : Hid (Below w1.heap.size w1 x3) := up_trans B1.out UU
  replace KT1 : Hid (x3.heap[w1.heap.size]? = some (.cells #[.slice aM n cM, .slice aG m cG] 30)) := blk_up KT1.out UU
  replace FT : Hid (OwnSk x3 x1.heap.size 62 (.slice aA t3.nodes.length cA) (.slice aB t3.head.length cB) t3 es2) := FT.out.up UU
  replace KT2 : Hid (x3.heap[w2.heap.size]? = some (.cells #[.slice aA t3.nodes.length cA, .slice aB t3.head.length cB] 30)) := blk_up KT2.out UU
  replace FU : Hid (OwnSk x3 x2.heap.size 65 (.slice aA3 t3.nodes.length cA3) (.slice aB3 t3.head.length cB3) t3 es3) := FU.out.up UU
  clear hx3 UU
  obtain ⟨R, hR⟩ : ∃ R : World → Prop, R = fun X => X.heap[w2.heap.size]? = some (.cells #[.slice aA t3.nodes.length cA, .slice aB t3.head.length cB] 30) ∧ X.heap[w3.heap.size]? = some (.cells #[.slice aA3 t3.nodes.length cA3, .slice aB3 t3.head.length cB3] 25) ∧ OwnSk X x1.heap.size 62 (.slice aA t3.nodes.length cA) (.slice aB t3.head.length cB) t3 es2 ∧ OwnSk X x2.heap.size 65 (.slice aA3 t3.nodes.length cA3) (.slice aB3 t3.head.length cB3) t3 es3 := ⟨_, rfl⟩
  have HR : Hid (∀ X, R X → X.heap[w2.heap.size]? = some (.cells #[.slice aA t3.nodes.length cA, .slice aB t3.head.length cB] 30) ∧ X.heap[w3.heap.size]? = some (.cells #[.slice aA3 t3.nodes.length cA3, .slice aB3 t3.head.length cB3] 25) ∧ OwnSk X x1.heap.size 62 (.slice aA t3.nodes.length cA) (.slice aB t3.head.length cB) t3 es2 ∧ OwnSk X x2.heap.size 65 (.slice aA3 t3.nodes.length cA3) (.slice aB3 t3.head.length cB3) t3 es3) := by
    intro X hX; rw [hR] at hX; exact hX
  have HSP : Hid (Sp w w0.heap.size w1.heap.size (.slice aM n cM) (.slice aG m cG) n m R x3 s es1) := by
    have z := Sp.start (R := R) (w := w) FO.out B1.out BW0.out BE.out KT1.out (by rw [hR]; exact ⟨KT2.out, KT3.out, FT.out, FU.out⟩) (by
      intro X Y g hg hG hX
      have s1 := S1.out
      have s2 := S2.out
      have s3 := S3.out
      have s4 := S4.out
      rw [hR] at hX ⊢
      exact ⟨blk_grown hX.1 hG (by simp; omega), blk_grown hX.2.1 hG (by simp; omega), hX.2.2.1.elder hG (by omega), hX.2.2.2.elder hG (by omega)⟩)
    rw [HNM.out.1, HNM.out.2] at z
    exact z
  have hm63 : (m : Int) ≤ 9223372036854775807 := by have h1 := HBIG.out.2.1; have h2 := HNM.out.2; rw [h2] at h1; omega
  have hn63 : (n : Int) ≤ 9223372036854775807 := by have h1 := HBIG.out.1; have h2 := HNM.out.1; rw [h2] at h1; omega
  clear hR KT1 KT2 KT3 FT FU FO B1 BE KB0 KB1 FS S1 S2 S3 S4 S5 BW0 HBIG HCO HNM
  go_wp2_with fail
  rw [HWE.out]
  clear HWE
  generalize w1.heap.size = T1 at *
  generalize w0.heap.size = BA at *
  go_loopw [12] (fun q wr => ∃ (i : Nat) (s' : Sk) (es' : List (En × Value)), i ≤ m ∧ q = .int .i64 (i : Int) ∧ Hid (Sp w BA T1 (.slice aM n cM) (.slice aG m cG) n m R wr s' es')) (fun q _ => m - (intOf q).toNat)
  case atStart => exact ⟨0, s, es1, by omega, rfl, HSP⟩
  case round =>
    clear HSP
    obtain ⟨i, s', es', hi, rfl, HS⟩ := hrel
    have p1 : wr.cell? ⟨T1, 1, none⟩ = some (.slice aG m cG) := blk_cell HS.out.k1 1 _ rfl
    have hi0 : 0 ≤ (i : Int) := by omega
    by_cases hlt : i < m
    · have hlt' : (i : Int) < (m : Int) := by omega
      obtain ⟨g, cap, e, c1, f1, hs⟩ := HS.out.set 0 (by omega) i (by simp only [Sk.ways]; rw [HS.out.hm]; exact hlt)
      simp only [wayV] at e
      injection e with e1 _ e3
      subst e1
      have HS2 : Hid (Sp w BA T1 (.slice aM n cM) (.slice (some ⟨g, 0, none⟩) m cG) n m R (wr.setCell ⟨g, i, none⟩ (.int .i64 (-1))) (s'.set 0 i (-1)) es') := hs (-1)
      clear hs e3
      go_wp2_with fail
      exact ⟨⟨i + 1, _, es', by omega, by go_num, HS2⟩, by simp [intOf]; omega⟩
    · have hlt' : ¬ (i : Int) < (m : Int) := by omega
      go_wp2_with fail
      clear p1 hlt hlt' hi0 hi
      go_loopw [13] (fun q wx => ∃ (k : Nat) (s2 : Sk) (es2' : List (En × Value)), k ≤ n ∧ q = .int .i64 (k : Int) ∧ Hid (Sp w BA T1 (.slice aM n cM) (.slice aG m cG) n m R wx s2 es2')) (fun q _ => n - (intOf q).toNat)
      case atStart => exact ⟨0, s', es', by omega, rfl, HS⟩
      case round =>
        clear HS
        obtain ⟨k, s2, e2, hk, rfl, HQ⟩ := hrel
        have p0 : wr.cell? ⟨T1, 0, none⟩ = some (.slice aM n cM) := blk_cell HQ.out.k1 0 _ rfl
        have hk0 : 0 ≤ (k : Int) := by omega
        by_cases hkl : k < n
        · have hkl' : (k : Int) < (n : Int) := by omega
          obtain ⟨g, cap, ai, ci, e, hw, _, _, _, _, _, hb⟩ := HQ.out.next k hkl
          injection e with e1 _ e3
          subst e1
          have HWV : Hid (wayV (.slice aG m cG) e2 (k + 1) = .slice ai (s2.h k) ci) := hw
          generalize hHK : s2.h k = HK at *
          have HHK : Hid (s2.h k = HK) := hHK
          clear hw hHK e3
          go_wp2_with fail
          clear p0
          go_loopw [14] (fun q wx => ∃ (j : Nat) (s3 : Sk), j ≤ HK ∧ q = .int .i64 (j : Int) ∧ Hid (Sp w BA T1 (.slice (some ⟨g, 0, none⟩) n cM) (.slice aG m cG) n m R wx s3 e2 ∧ s3.h k = HK)) (fun q _ => HK - (intOf q).toNat)
          case atStart => exact ⟨0, s2, by omega, rfl, HQ.out, HHK.out⟩
          case round =>
            clear HQ HHK
            obtain ⟨j, s3, hj, rfl, HP⟩ := hrel
            have p0 : wr.cell? ⟨T1, 0, none⟩ = some (.slice (some ⟨g, 0, none⟩) n cM) := blk_cell HP.out.1.k1 0 _ rfl
            have hj0 : 0 ≤ (j : Int) := by omega
            obtain ⟨g', cap', ai', ci', e', hw', y0, y1, y2, y3, y4, _⟩ := HP.out.1.next k hkl
            rw [HWV.out] at hw'
            injection e' with e1 _ _
            injection e1 with e1
            injection e1 with e1
            subst e1
            rw [HP.out.2] at hw' y4
            injection hw' with h1 _ h3
            subst h1
            subst h3
            generalize (s3.at' k).1 = y at *
            by_cases hjl : j < HK
            · have hjl' : (j : Int) < (HK : Int) := by omega
              obtain ⟨g2, cap2, e, c1, f1, hs⟩ := HP.out.1.set (k + 1) (by have := HP.out.1.hn; omega) j (by have := HP.out.2; simp only [Sk.ways]; unfold Sk.h at this; omega)
              rw [HWV.out] at e
              injection e with e1 _ e3
              subst e1
              have HS2 : Hid (Sp w BA T1 (.slice (some ⟨g, 0, none⟩) n cM) (.slice aG m cG) n m R (wr.setCell ⟨g2, j, none⟩ (.int .i64 (-1))) (s3.set (k + 1) j (-1)) e2 ∧ (s3.set (k + 1) j (-1)).h k = HK) := ⟨hs (-1), by rw [Sk.set_h]; exact HP.out.2⟩
              clear hs e3 y0 y1 y2 y3
              go_wp2_with fail
              exact ⟨⟨j + 1, _, by omega, by go_num, HS2⟩, by simp [intOf]; omega⟩
            · have hjl' : ¬ (j : Int) < (HK : Int) := by omega
              obtain ⟨s4, e4, f0, f1, f2, f3, h4⟩ := HP.out.1.clear k (by rw [HP.out.1.hn]; exact hkl) rfl
              have HS2 : Hid (Sp w BA T1 (.slice (some ⟨g, 0, none⟩) n cM) (.slice aG m cG) n m R ((((wr.setCell ⟨g, k * 5, none⟩ (.string ⟨#[]⟩)).setCell ⟨g, k * 5 + 1, none⟩ (.int .i64 0)).setCell ⟨g, k * 5 + 2, none⟩ (.int .i64 0)).setCell ⟨g, k * 5 + 3, none⟩ (.string ⟨#[]⟩)) s4 e4) := h4
              clear h4
              go_wp2_with fail
              exact ⟨⟨k + 1, s4, e4, by omega, by go_num, HS2⟩, by simp [intOf]; omega⟩
        · have hkl' : ¬ (k : Int) < (n : Int) := by omega
          have HRW := HR.out _ HQ.out.rest
          have e0 : wr.cell? ⟨w2.heap.size, 0, none⟩ = some (.slice aA t3.nodes.length cA) := blk_cell HRW.1 0 _ rfl
          have e1 : wr.cell? ⟨w2.heap.size, 1, none⟩ = some (.slice aB t3.head.length cB) := blk_cell HRW.1 1 _ rfl
          have e2 : wr.cell? ⟨w3.heap.size, 0, none⟩ = some (.slice aA3 t3.nodes.length cA3) := blk_cell HRW.2.1 0 _ rfl
          have e3 : wr.cell? ⟨w3.heap.size, 1, none⟩ = some (.slice aB3 t3.head.length cB3) := blk_cell HRW.2.1 1 _ rfl
          have HC := same_self t3 es2 es3 _ _ _ _ wr HRW.2.2.1.read HRW.2.2.2.read
          have HBE : Hid (Below w.heap.size w wr) := HQ.out.bel
          have HN : Hid (∀ (c : Int) (X : World), Calls Try.prog 16 #[.int .i64 c] X fun e w' => e = .returned (.int .i64 c) ∧ w' = X) := fun c X => num_any c X
          clear HRW HQ HR
          go_wp2_with fail
          refine (HN.out CO _).mono ?_
          rintro e wn ⟨rfl, hwn⟩
          rw [hwn]
          clear hwn wn
          go_wp2_with fail
          refine HC.mono ?_
          rintro e w8 ⟨rfl, U8⟩
          clear HC
          go_wp2_with fail
          go_ret
          exact ⟨by simp, up_trans HBE.out U8.out⟩
end Go.Proofs.Ytmiokopnhkojoaa
