/- EditApart: what follows of an edit has its tables apart. -/
import Derived.Test.YtbknoplfjfnbcaaLOf
import Derived.Deep.CutRange
namespace Go.Proofs.Ytbknoplfjfnbcaa
open Go.RowKit
set_option linter.unusedVariables false
set_option linter.unusedSimpArgs false

theorem seven {W : World} {N0 N1 : Nat} {a b c d e f g : Value} {t u : TypeId} (h0 : W.heap[N0]? = some (.cells #[a, b, c] t)) (h1 : W.heap[N1]? = some (.cells #[d, e, f, g] u)) : W.cell? ⟨N0, 0, none⟩ = some a ∧ W.cell? ⟨N0, 1, none⟩ = some b ∧ W.cell? ⟨N0, 2, none⟩ = some c ∧ W.cell? ⟨N1, 0, none⟩ = some d ∧ W.cell? ⟨N1, 1, none⟩ = some e ∧ W.cell? ⟨N1, 2, none⟩ = some f ∧ W.cell? ⟨N1, 3, none⟩ = some g :=
  ⟨blk_cell h0 0 _ rfl, blk_cell h0 1 _ rfl, blk_cell h0 2 _ rfl, blk_cell h1 0 _ rfl, blk_cell h1 1 _ rfl, blk_cell h1 2 _ rfl, blk_cell h1 3 _ rfl⟩
theorem two0 (w : World) (o p : Obj) : (((w.alloc o).alloc p).drew).heap[w.heap.size]? = some o := blk_up (w := w.alloc o) (blk_new w o) (up_dr (up_alloc _ _))
theorem two1 (w : World) (o p : Obj) : (((w.alloc o).alloc p).drew).heap[w.heap.size + 1]? = some p := by
  have := blk_new (w.alloc o) p
  rw [show (w.alloc o).heap.size = w.heap.size + 1 by simp] at this
  exact this
theorem two2 (w : World) (o p : Obj) : Below w.heap.size w (((w.alloc o).alloc p).drew) := up_dr (up_al (up_alloc _ _) _)
/-- A version in a block of its own. -/
def VBox (w : World) (base N : Nat) (ts : List Me) (s n : Int) : Prop := ∃ a l c, w.heap[N]? = some (.cells #[.slice a l c, .int .i64 s, .int .i64 n] 30) ∧ OwnR w base 65 5 (.slice a l c) (ts.map meRow)

set_option maxHeartbeats 8000000 in
set_option maxRecDepth 100000 in
theorem apart_walk (ts : List Me) (seq next : Int) (drop : List Int) (add : List Me) (seq2 next2 : Int) (va da aa : Option Addr) (vn vc dn dc an ac : Nat) (w : World)
    (hv : MetsR w (.slice va vn vc) ts) (hd : IntsR w (.slice da dn dc) drop) (ha : MetsR w (.slice aa an ac) add) (hdi : ∀ i ∈ drop, In64 i) (htl : ts.length ≤ 4000000000000) (hdl : drop.length ≤ 17592186044416) (hal : add.length ≤ 4000000000000) :
    Calls Try.prog 6 #[.agg #[.slice va vn vc, .int .i64 seq, .int .i64 next], .agg #[.slice da dn dc, .slice aa an ac, .int .i64 seq2, .int .i64 next2]] w fun e w' => e = .returned (.bool true) ∧ Hid (Below w.heap.size w w') := by
  have HV : Hid (MetsR w (.slice va vn vc) ts) := hv
  have HD : Hid (IntsR w (.slice da dn dc) drop) := hd
  have HA : Hid (MetsR w (.slice aa an ac) add) := ha
  have HDI : Hid (∀ i ∈ drop, In64 i) := hdi
  clear hv hd ha hdi
  obtain ⟨w0, hw0⟩ : ∃ w0, w0 = (w.alloc (.cells #[.slice va vn vc, .int .i64 seq, .int .i64 next] 24)).alloc (.cells #[.slice da dn dc, .slice aa an ac, .int .i64 seq2, .int .i64 next2] 27) := ⟨_, rfl⟩
  have HW0 : Hid ((w.alloc (.cells #[.slice va vn vc, .int .i64 seq, .int .i64 next] 24)).alloc (.cells #[.slice da dn dc, .slice aa an ac, .int .i64 seq2, .int .i64 next2] 27) = w0) := hw0.symm
  have U0 : Hid (Below w.heap.size w w0) := by rw [hw0]; exact up_al (up_alloc _ _) _
  have B0 : Hid (w0.heap[w.heap.size]? = some (.cells #[.slice va vn vc, .int .i64 seq, .int .i64 next] 24)) := by rw [hw0]; exact blk_up (blk_new _ _) (up_alloc _ _)
  have B1 : Hid (w0.heap[w.heap.size + 1]? = some (.cells #[.slice da dn dc, .slice aa an ac, .int .i64 seq2, .int .i64 next2] 27)) := by
    rw [hw0]
    have := blk_new (w.alloc (.cells #[.slice va vn vc, .int .i64 seq, .int .i64 next] 24)) (.cells #[.slice da dn dc, .slice aa an ac, .int .i64 seq2, .int .i64 next2] 27)
    rw [show (w.alloc (.cells #[.slice va vn vc, .int .i64 seq, .int .i64 next] 24)).heap.size = w.heap.size + 1 by simp] at this
    exact this
  have SZ : Hid (w0.heap.size = w.heap.size + 1 + 1) := by rw [hw0]; unfold Hid; simp
  clear hw0
  have HAL : Hid (∀ w, Calls Try.prog 22 #[] w fun e w' => e = .returned (.bool true) ∧ Hid (Below w.heap.size w w')) := alive_any
  go_enter Try.func6, Try.ntmps6
  go_upto_region 1 with fail
  rw [HW0.out]
  clear HW0
  generalize hN1 : w.heap.size + 1 = N1 at *
  have HN : Hid (w.heap.size < w0.heap.size ∧ N1 < w0.heap.size ∧ w.heap.size ≤ N1) := by have := SZ.out; unfold Hid; omega
  clear SZ hN1
  go_wp2_with fail
  refine (HAL.out _).mono ?_
  rintro e w1 ⟨rfl, u1⟩
  have U1 := hid (up_trans U0.out u1.out)
  replace B0 := hid (blk_up B0.out u1.out)
  replace B1 := hid (blk_up B1.out u1.out)
  replace HN : Hid (w.heap.size < w1.heap.size ∧ N1 < w1.heap.size ∧ w.heap.size ≤ N1) := by have := HN.out; have := u1.out.size; unfold Hid; omega
  clear u1 U0 HAL
  clear w0
  obtain ⟨x0, x1, x2, y0, y1, y2, y3⟩ := seven B0.out B1.out
  have HCE : Hid (∀ W, Below w1.heap.size w1 W → W.cell? ⟨w.heap.size, 0, none⟩ = some (.slice va vn vc) ∧ W.cell? ⟨w.heap.size, 1, none⟩ = some (.int .i64 seq) ∧ W.cell? ⟨w.heap.size, 2, none⟩ = some (.int .i64 next) ∧ W.cell? ⟨N1, 0, none⟩ = some (.slice da dn dc) ∧ W.cell? ⟨N1, 1, none⟩ = some (.slice aa an ac) ∧ W.cell? ⟨N1, 2, none⟩ = some (.int .i64 seq2) ∧ W.cell? ⟨N1, 3, none⟩ = some (.int .i64 next2)) := fun W h => seven (blk_up B0.out h) (blk_up B1.out h)
  have C8 : Hid (∀ W, Below w1.heap.size w1 W → Calls Try.prog 8 #[.agg #[.slice va vn vc, .int .i64 seq, .int .i64 next]] W fun e w' => ∃ a n c, e = .returned (.agg #[.slice a n c, .int .i64 seq, .int .i64 next]) ∧ Hid (VerO w' w1.heap.size a n c ts) ∧ Hid (Below w1.heap.size w1 w') ∧ Hid (Below W.heap.size W w')) := by
    intro W u
    refine (of_any ts seq next va vn vc W ((HV.out.up U1.out).up u) htl).mono ?_
    rintro e w' ⟨a, n, c, rfl, hO, hb⟩
    exact ⟨a, n, c, rfl, hO.out.mono u.size, up_trans u hb.out, hb⟩
  have C9 : Hid (∀ W, Below w1.heap.size w1 W → Calls Try.prog 9 #[.agg #[.slice da dn dc, .slice aa an ac, .int .i64 seq2, .int .i64 next2]] W fun e w' => ∃ a1 n1 c1 a2 n2 c2, e = .returned (.agg #[.slice a1 n1 c1, .slice a2 n2 c2, .int .i64 seq2, .int .i64 next2]) ∧ Hid (IntsR w' (.slice a1 n1 c1) drop) ∧ Hid (MetsR w' (.slice a2 n2 c2) add) ∧ Hid (Below w1.heap.size w1 w') ∧ Hid (Below W.heap.size W w')) := by
    intro W u
    refine (ofEdit_any drop add seq2 next2 da aa dn dc an ac W ((HD.out.up U1.out).up u) ((HA.out.up U1.out).up u) hdl hal).mono ?_
    rintro e w' ⟨a1, n1, c1, a2, n2, c2, rfl, hO, hQ, hb⟩
    exact ⟨a1, n1, c1, a2, n2, c2, rfl, Rws.own hO.out, VerO.read hQ.out, up_trans u hb.out, hb⟩
  have C10 : Hid (∀ a n c a1 n1 c1 a2 n2 c2 W0 W, Below w1.heap.size w1 W0 → VerO W0 w1.heap.size a n c ts → IntsR W0 (.slice a1 n1 c1) drop → MetsR W0 (.slice a2 n2 c2) add → Below W0.heap.size W0 W → Calls Try.prog 10 #[.agg #[.slice a n c, .int .i64 seq, .int .i64 next], .agg #[.slice a1 n1 c1, .slice a2 n2 c2, .int .i64 seq2, .int .i64 next2]] W fun e w' => ∃ a l c, e = .returned (.tuple #[.agg #[.slice a l c, .int .i64 (if (appM ts seq next drop add seq2 next2).2 = 0 then seq2 else 0), .int .i64 (if (appM ts seq next drop add seq2 next2).2 = 0 then next2 else 0)], .int .i64 (appM ts seq next drop add seq2 next2).2]) ∧ Hid (OwnR w' w1.heap.size 65 5 (.slice a l c) ((appM ts seq next drop add seq2 next2).1.map meRow)) ∧ Hid (Below w1.heap.size w1 w') ∧ Hid (Below W.heap.size W w')) := by
    intro a n c a1 n1 c1 a2 n2 c2 W0 W u0 h1 h2 h3 u
    refine (apply_any ts seq next drop add seq2 next2 a a1 a2 n c n1 c1 n2 c2 W ((VerO.read h1).up u) (h2.up u) (h3.up u) HDI.out hal).mono ?_
    rintro e w' ⟨a, l, c, rfl, hO, hb⟩
    have u2 := up_trans u0 u
    exact ⟨a, l, c, rfl, hO.mono u2.size, up_trans u2 hb, hb⟩
  have HRZ : Hid (∀ q, appM ts seq next drop add seq2 next2 = q → appM ts seq next drop add seq2 next2 = q) := fun q h => h
  have HAZ : Hid ((appM ts seq next drop add seq2 next2).2 = 0 → chkV (appM ts seq next drop add seq2 next2).1 seq2 next2 = true ∧ ¬ (seq2 < seq ∨ next2 < next)) := app_zero
  have HAB : Hid ((appM ts seq next drop add seq2 next2).2 ≠ 0 → (appM ts seq next drop add seq2 next2).1 = []) := app_empty
  generalize appM ts seq next drop add seq2 next2 = R at *
  clear HRZ
  obtain ⟨S1, hS1⟩ : ∃ S1, (if R.2 = 0 then seq2 else 0) = S1 := ⟨_, rfl⟩
  obtain ⟨X1, hX1⟩ : ∃ X1, (if R.2 = 0 then next2 else 0) = X1 := ⟨_, rfl⟩
  rw [hS1, hX1] at C10
  have HS1 : Hid ((if R.2 = 0 then seq2 else 0) = S1) := hS1
  have HX1 : Hid ((if R.2 = 0 then next2 else 0) = X1) := hX1
  clear hS1 hX1
  obtain ⟨R1, R2⟩ := R
  simp only at C10 HS1 HX1 HAZ HAB
  have D0 : Hid (Below w1.heap.size w1 w1.drew) := up_dr (Below.refl _ _)
  have DA : Hid (Below w1.heap.size w1 (w1.alloc (.cells #[.slice none 0 0, .int .i64 0, .int .i64 0] 30)).drew) := up_dr (up_alloc _ _)
  have CA : Hid (∀ W, Below w1.heap.size w1 W → ∀ o, (W.alloc o).cell? ⟨w.heap.size, 0, none⟩ = some (.slice va vn vc) ∧ (W.alloc o).cell? ⟨w.heap.size, 1, none⟩ = some (.int .i64 seq) ∧ (W.alloc o).cell? ⟨w.heap.size, 2, none⟩ = some (.int .i64 next) ∧ (W.alloc o).cell? ⟨N1, 0, none⟩ = some (.slice da dn dc) ∧ (W.alloc o).cell? ⟨N1, 1, none⟩ = some (.slice aa an ac) ∧ (W.alloc o).cell? ⟨N1, 2, none⟩ = some (.int .i64 seq2) ∧ (W.alloc o).cell? ⟨N1, 3, none⟩ = some (.int .i64 next2)) := fun W h o => HCE.out _ (up_al h o)
  have CS : Hid (∀ W, Below w1.heap.size w1 W → ∀ N, w1.heap.size ≤ N → ∀ a b c, (((W.setCell ⟨N, 0, none⟩ a).setCell ⟨N, 1, none⟩ b).setCell ⟨N, 2, none⟩ c).cell? ⟨w.heap.size, 0, none⟩ = some (.slice va vn vc) ∧ (((W.setCell ⟨N, 0, none⟩ a).setCell ⟨N, 1, none⟩ b).setCell ⟨N, 2, none⟩ c).cell? ⟨w.heap.size, 1, none⟩ = some (.int .i64 seq) ∧ (((W.setCell ⟨N, 0, none⟩ a).setCell ⟨N, 1, none⟩ b).setCell ⟨N, 2, none⟩ c).cell? ⟨w.heap.size, 2, none⟩ = some (.int .i64 next) ∧ (((W.setCell ⟨N, 0, none⟩ a).setCell ⟨N, 1, none⟩ b).setCell ⟨N, 2, none⟩ c).cell? ⟨N1, 0, none⟩ = some (.slice da dn dc) ∧ (((W.setCell ⟨N, 0, none⟩ a).setCell ⟨N, 1, none⟩ b).setCell ⟨N, 2, none⟩ c).cell? ⟨N1, 1, none⟩ = some (.slice aa an ac) ∧ (((W.setCell ⟨N, 0, none⟩ a).setCell ⟨N, 1, none⟩ b).setCell ⟨N, 2, none⟩ c).cell? ⟨N1, 2, none⟩ = some (.int .i64 seq2) ∧ (((W.setCell ⟨N, 0, none⟩ a).setCell ⟨N, 1, none⟩ b).setCell ⟨N, 2, none⟩ c).cell? ⟨N1, 3, none⟩ = some (.int .i64 next2)) := by
    intro W h N hN a b c
    exact seven (blk_grown (blk_up B0.out h) (set3_grown W N a b c) (by intro q; injection q with q; have := HN.out; omega)) (blk_grown (blk_up B1.out h) (set3_grown W N a b c) (by intro q; injection q with q; have := HN.out; omega))
  have CR : Hid (w1.drew.cell? ⟨w.heap.size, 0, none⟩ = some (.slice va vn vc) ∧ w1.drew.cell? ⟨w.heap.size, 1, none⟩ = some (.int .i64 seq) ∧ w1.drew.cell? ⟨w.heap.size, 2, none⟩ = some (.int .i64 next) ∧ w1.drew.cell? ⟨N1, 0, none⟩ = some (.slice da dn dc) ∧ w1.drew.cell? ⟨N1, 1, none⟩ = some (.slice aa an ac) ∧ w1.drew.cell? ⟨N1, 2, none⟩ = some (.int .i64 seq2) ∧ w1.drew.cell? ⟨N1, 3, none⟩ = some (.int .i64 next2)) := HCE.out _ D0.out
  have CRA : Hid ((w1.alloc (.cells #[.slice none 0 0, .int .i64 0, .int .i64 0] 30)).drew.cell? ⟨w.heap.size, 0, none⟩ = some (.slice va vn vc) ∧ (w1.alloc (.cells #[.slice none 0 0, .int .i64 0, .int .i64 0] 30)).drew.cell? ⟨w.heap.size, 1, none⟩ = some (.int .i64 seq) ∧ (w1.alloc (.cells #[.slice none 0 0, .int .i64 0, .int .i64 0] 30)).drew.cell? ⟨w.heap.size, 2, none⟩ = some (.int .i64 next) ∧ (w1.alloc (.cells #[.slice none 0 0, .int .i64 0, .int .i64 0] 30)).drew.cell? ⟨N1, 0, none⟩ = some (.slice da dn dc) ∧ (w1.alloc (.cells #[.slice none 0 0, .int .i64 0, .int .i64 0] 30)).drew.cell? ⟨N1, 1, none⟩ = some (.slice aa an ac) ∧ (w1.alloc (.cells #[.slice none 0 0, .int .i64 0, .int .i64 0] 30)).drew.cell? ⟨N1, 2, none⟩ = some (.int .i64 seq2) ∧ (w1.alloc (.cells #[.slice none 0 0, .int .i64 0, .int .i64 0] 30)).drew.cell? ⟨N1, 3, none⟩ = some (.int .i64 next2)) := HCE.out _ DA.out
  have pq := hid (CA.out w1 (Below.refl _ _))
  go_wp2_with fail
  go_cut [5, 6] from 13 to 20 (fun s5 s6 wx => ∃ N5 : Nat, s5 = .pointer (some ⟨N5, 0, none⟩) ∧ s6 = .int .i64 R2 ∧ Hid (VBox wx w1.heap.size N5 R1 S1 X1) ∧ Hid (Below w1.heap.size w1 wx))
  case first =>
    go_region_held3 (fun w' => w'.cell? ⟨w.heap.size, 0, none⟩ = some (.slice va vn vc) ∧ w'.cell? ⟨w.heap.size, 1, none⟩ = some (.int .i64 seq) ∧ w'.cell? ⟨w.heap.size, 2, none⟩ = some (.int .i64 next) ∧ w'.cell? ⟨N1, 0, none⟩ = some (.slice da dn dc) ∧ w'.cell? ⟨N1, 1, none⟩ = some (.slice aa an ac) ∧ w'.cell? ⟨N1, 2, none⟩ = some (.int .i64 seq2) ∧ w'.cell? ⟨N1, 3, none⟩ = some (.int .i64 next2)) (first | with_reducible exact ⟨x0, x1, x2, y0, y1, y2, y3⟩ | with_reducible exact HC3.out | with_reducible exact HC4.out | with_reducible exact HC5.out | with_reducible exact pq.out _ | with_reducible exact CR.out | with_reducible exact CRA.out | with_reducible exact CA.out _ u3.out _ | with_reducible exact CA.out _ u4.out _ | with_reducible exact CA.out _ u5.out _ | with_reducible exact CS.out _ u5.out _ u4.out.size _ _ _ | with_reducible exact CS.out _ u5.out _ u3.out.size _ _ _ | with_reducible exact CS.out _ u5.out _ (Nat.le_refl _) _ _ _ | (simp [go_sem, x0, x1, x2, y0, y1, y2, y3]; done)) (first
      | (go_at_call 8; with_reducible refine (C8.out _ D0.out).mono ?_; rintro e w3 ⟨a3, n3, c3, rfl, O3, u3, v3⟩; have HC3 := hid (HCE.out _ u3.out))
      | (go_at_call 8; with_reducible refine (C8.out _ DA.out).mono ?_; rintro e w3 ⟨a3, n3, c3, rfl, O3, u3, v3⟩; have HC3 := hid (HCE.out _ u3.out); have BZ := hid (blk_up (w := (w1.alloc (.cells #[.slice none 0 0, .int .i64 0, .int .i64 0] 30)).drew) (blk_new w1 (.cells #[.slice none 0 0, .int .i64 0, .int .i64 0] 30)) v3.out))
      | (go_at_call 9; with_reducible refine (C9.out _ u3.out).mono ?_; rintro e w4 ⟨a4, n4, c4, a5, n5, c5, rfl, I4, M4, u4, v4⟩; have HC4 := hid (HCE.out _ u4.out); have O4 := hid (O3.out.up v4.out); have BZ := hid (blk_up BZ.out v4.out))
      | (go_at_call 9; with_reducible refine (C9.out _ u3.out).mono ?_; rintro e w4 ⟨a4, n4, c4, a5, n5, c5, rfl, I4, M4, u4, v4⟩; have HC4 := hid (HCE.out _ u4.out); have O4 := hid (O3.out.up v4.out))
      | (go_at_call 9; with_reducible refine (C9.out _ (up_al u3.out _)).mono ?_; rintro e w4 ⟨a4, n4, c4, a5, n5, c5, rfl, I4, M4, u4, v4⟩; have HC4 := hid (HCE.out _ u4.out); have O4 := hid ((O3.out.up (up_alloc _ _)).up v4.out); have BZ := hid (blk_up (blk_new w3 (.cells #[.slice none 0 0, .int .i64 0, .int .i64 0] 30)) v4.out))
      | (go_at_call 10; with_reducible refine (C10.out _ _ _ _ _ _ _ _ _ _ _ u4.out O4.out I4.out M4.out (Below.refl _ _)).mono ?_; rintro e w5 ⟨a6, n6, c6, rfl, O5, u5, v5⟩; have HC5 := hid (HCE.out _ u5.out); have BZ := hid (blk_up BZ.out v5.out); have r0 := blk_cell BZ.out 0 _ rfl; have r1 := blk_cell BZ.out 1 _ rfl; have r2 := blk_cell BZ.out 2 _ rfl; have f0 := blk_frozen BZ.out 0; have f1 := blk_frozen BZ.out 1; have f2 := blk_frozen BZ.out 2)
      | (go_at_call 10; with_reducible refine (C10.out _ _ _ _ _ _ _ _ _ _ _ u4.out O4.out I4.out M4.out (Below.refl _ _)).mono ?_; rintro e w5 ⟨a6, n6, c6, rfl, O5, u5, v5⟩; have HC5 := hid (HCE.out _ u5.out))
      | (go_at_call 10; with_reducible refine (C10.out _ _ _ _ _ _ _ _ _ _ _ u4.out O4.out I4.out M4.out (up_alloc _ _)).mono ?_; rintro e w5 ⟨a6, n6, c6, rfl, O5, u5, v5⟩; have HC5 := hid (HCE.out _ u5.out); have BZ := hid (blk_up (blk_new w4 (.cells #[.slice none 0 0, .int .i64 0, .int .i64 0] 30)) v5.out); have r0 := blk_cell BZ.out 0 _ rfl; have r1 := blk_cell BZ.out 1 _ rfl; have r2 := blk_cell BZ.out 2 _ rfl; have f0 := blk_frozen BZ.out 0; have f1 := blk_frozen BZ.out 1; have f2 := blk_frozen BZ.out 2))
    all_goals
      go_wp2_with fail
      go_meet
      case rel =>
        first
          | exact ⟨_, rfl, rfl, ⟨a6, n6, c6, blk_new _ _, O5.out.up (up_alloc _ _)⟩, up_al u5.out _⟩
          | exact ⟨_, rfl, rfl, ⟨a6, n6, c6, set3_blk BZ.out _ _ _, OwnR.far O5.out (set3_grown _ _ _ _ _) (own_blk_ne O5.out.2 BZ.out (by decide))⟩, u5.out.trans (below_grown (set3_grown w5 _ _ _ _) u5.out.size (fun k hk => by injection hk with hk; have := u4.out.size; have := u3.out.size; omega))⟩
  case rest =>
    obtain ⟨N5, rfl, rfl, HB5, U5⟩ := hcut
    obtain ⟨a5, n5, c5, hb5, hO5⟩ := HB5.out
    have B5 : Hid (wc.heap[N5]? = some (.cells #[.slice a5 n5 c5, .int .i64 S1, .int .i64 X1] 30)) := hb5
    have O5 : Hid (MetsR wc (.slice a5 n5 c5) R1) := Rws.own hO5
    have B0c := hid (blk_up B0.out U5.out)
    have UC := hid (up_trans U1.out U5.out)
    clear hb5 hO5 HB5 C8 C9 C10 D0 DA CA CS CR CRA pq HCE x0 x1 x2 y0 y1 y2 y3 U5 B0 B1
    obtain ⟨aa5, cc5, e5, hc51, hc52⟩ := O5.out.len
    simp only [Value.slice.injEq] at e5
    obtain ⟨rfl, rfl, rfl⟩ := e5
    have hl63 : (R1.length : Int) ≤ 9223372036854775807 := by unfold maxLen at hc52; omega
    clear hc51 hc52
    have HNU : Hid (∀ n w, Calls Try.prog 17 #[.int .i64 n] w fun e w' => e = .returned (.int .i64 n) ∧ w' = w) := num_any
    have p0 := blk_cell B5.out 0 _ rfl
    by_cases hz : R2 = 0
    case neg =>
      have hz' : (R2 == 0) = false := by simp [hz]
      obtain rfl : R1 = [] := HAB.out hz
      go_wp2_with fail
      refine (HNU.out _ _).mono ?_
      rintro e w6 ⟨rfl, hw6⟩
      subst hw6
      go_wp2_with fail
      go_ret
      exact ⟨rfl, UC⟩
    subst hz
    obtain ⟨hch, hrg⟩ := HAZ.out rfl
    have HCH : Hid (chkV R1 seq2 next2 = true) := hch
    have HRG : Hid (¬ (seq2 < seq ∨ next2 < next)) := hrg
    have e1 := HS1.out
    have e2 := HX1.out
    simp only [if_true] at e1 e2
    subst e1
    subst e2
    clear hch hrg HS1 HX1 HAZ HAB
    go_wp2_with fail
    refine (HNU.out _ _).mono ?_
    rintro e w6 ⟨rfl, hw6⟩
    subst hw6
    go_wp2_with fail
    have hL256 : R1.length ≤ 256 := chk_len (errV_zero.2 HCH.out)
    go_loopw [7] (fun q wr => ∃ i : Nat, i ≤ R1.length ∧ q = .int .i64 (i : Int) ∧ Hid (Below w6.heap.size w6 wr)) (fun q _ => R1.length - (intOf q).toNat)
    case atStart => exact ⟨0, by omega, rfl, Below.refl _ _⟩
    case round =>
      clear p0
      obtain ⟨i, hi, rfl, HBi⟩ := hrel
      have p0 := blk_cell (blk_up B5.out HBi.out) 0 _ rfl
      by_cases hil : i < R1.length
      · have hil' : (i : Int) < (R1.length : Int) := by omega
        go_wp2_with fail
        go_loopw [8] (fun q wx => ∃ k : Nat, k ≤ i ∧ q = .int .i64 (k : Int) ∧ Hid (Below w6.heap.size w6 wx)) (fun q _ => i - (intOf q).toNat)
        case atStart => exact ⟨0, by omega, rfl, HBi⟩
        case round =>
          clear p0 HBi
          obtain ⟨k, hk, rfl, HBk⟩ := hrel
          by_cases hki : k < i
          · have hki' : (k : Int) < (i : Int) := by omega
            have hkl : (k : Int) < (R1.length : Int) := by omega
            have hil' : (i : Int) < (R1.length : Int) := by omega
            obtain ⟨b, off, cap, x, e, hx, x0, x1, x2, x3, x4⟩ := (O5.out.up HBk.out).at k (by omega)
            obtain ⟨b', off', cap', y, e', hy, y0, y1, y2, y3, y4⟩ := (O5.out.up HBk.out).at i (by omega)
            simp at e e'
            obtain ⟨rfl, rfl⟩ := e
            obtain ⟨⟨rfl, rfl⟩, rfl⟩ := e'
            have B5k := hid (blk_up B5.out HBk.out)
            have p0 := blk_cell B5k.out 0 _ rfl
            have HAP : Hid (x.id ≠ y.id ∧ (x.lvl = y.lvl → 0 < x.lvl → leM y.low x.high = false)) := chk_apart (chkV_all HCH.out) i k x y hx hy hki
            clear hx hy
            have KE : Hid (∀ W, Below wr.heap.size wr W → W.cell? ⟨N5, 0, none⟩ = some (.slice (some ⟨b, off, none⟩) R1.length c5) ∧ W.cell? ⟨b, off + k * 5, none⟩ = some (.int .i64 x.id) ∧ W.cell? ⟨b, off + k * 5 + 1, none⟩ = some (.int .i64 x.lvl) ∧ W.cell? ⟨b, off + k * 5 + 2, none⟩ = some (.int .i64 x.cnt) ∧ W.cell? ⟨b, off + k * 5 + 3, none⟩ = some (.string x.low) ∧ W.cell? ⟨b, off + k * 5 + 4, none⟩ = some (.string x.high) ∧ W.cell? ⟨b, off + i * 5, none⟩ = some (.int .i64 y.id) ∧ W.cell? ⟨b, off + i * 5 + 1, none⟩ = some (.int .i64 y.lvl) ∧ W.cell? ⟨b, off + i * 5 + 2, none⟩ = some (.int .i64 y.cnt) ∧ W.cell? ⟨b, off + i * 5 + 3, none⟩ = some (.string y.low) ∧ W.cell? ⟨b, off + i * 5 + 4, none⟩ = some (.string y.high)) := by
              intro W h
              have z0 := h.cell (World.block_lt_of_cell? wr _ p0)
              have z1 := h.cell (World.block_lt_of_cell? wr _ x0)
              have z2 := h.cell (World.block_lt_of_cell? wr _ x1)
              have z3 := h.cell (World.block_lt_of_cell? wr _ x2)
              have z4 := h.cell (World.block_lt_of_cell? wr _ x3)
              have z5 := h.cell (World.block_lt_of_cell? wr _ x4)
              have z6 := h.cell (World.block_lt_of_cell? wr _ y0)
              have z7 := h.cell (World.block_lt_of_cell? wr _ y1)
              have z8 := h.cell (World.block_lt_of_cell? wr _ y2)
              have z9 := h.cell (World.block_lt_of_cell? wr _ y3)
              have za := h.cell (World.block_lt_of_cell? wr _ y4)
              exact ⟨z0.trans p0, z1.trans x0, z2.trans x1, z3.trans x2, z4.trans x3, z5.trans x4, z6.trans y0, z7.trans y1, z8.trans y2, z9.trans y3, za.trans y4⟩
            go_wp2_with fail
            go_cut [9, 10] from 40 to 49 (fun s9 s10 wx => ∃ Na Nb : Nat, s9 = .pointer (some ⟨Na, 0, none⟩) ∧ s10 = .pointer (some ⟨Nb, 0, none⟩) ∧ Hid (BoxM wx Na x) ∧ Hid (BoxM wx Nb y) ∧ Hid (Below wr.heap.size wr wx))
            case first =>
              go_region_held3 (fun w' => w'.cell? ⟨N5, 0, none⟩ = some (.slice (some ⟨b, off, none⟩) R1.length c5) ∧ w'.cell? ⟨b, off + k * 5, none⟩ = some (.int .i64 x.id) ∧ w'.cell? ⟨b, off + k * 5 + 1, none⟩ = some (.int .i64 x.lvl) ∧ w'.cell? ⟨b, off + k * 5 + 2, none⟩ = some (.int .i64 x.cnt) ∧ w'.cell? ⟨b, off + k * 5 + 3, none⟩ = some (.string x.low) ∧ w'.cell? ⟨b, off + k * 5 + 4, none⟩ = some (.string x.high) ∧ w'.cell? ⟨b, off + i * 5, none⟩ = some (.int .i64 y.id) ∧ w'.cell? ⟨b, off + i * 5 + 1, none⟩ = some (.int .i64 y.lvl) ∧ w'.cell? ⟨b, off + i * 5 + 2, none⟩ = some (.int .i64 y.cnt) ∧ w'.cell? ⟨b, off + i * 5 + 3, none⟩ = some (.string y.low) ∧ w'.cell? ⟨b, off + i * 5 + 4, none⟩ = some (.string y.high)) (first | with_reducible exact ⟨p0, x0, x1, x2, x3, x4, y0, y1, y2, y3, y4⟩ | with_reducible exact KE.out _ (up_dr (Below.refl _ _)) | with_reducible exact KE.out _ (up_alloc _ _) | with_reducible exact KE.out _ (up_al (up_alloc _ _) _) | with_reducible exact KE.out _ (up_dr (up_alloc _ _)) | with_reducible exact KE.out _ (up_dr (up_al (up_alloc _ _) _))) (fail)
              all_goals
                go_wp2_with fail
                go_meet
                case rel =>
                  first
                    | exact ⟨wr.heap.size, wr.heap.size + 1, rfl, rfl, two0 wr (meBox x) (meBox y), two1 wr (meBox x) (meBox y), two2 wr (meBox x) (meBox y)⟩
                    | exact ⟨wr.heap.size + 1, wr.heap.size, rfl, rfl, two1 wr (meBox y) (meBox x), two0 wr (meBox y) (meBox x), two2 wr (meBox y) (meBox x)⟩
            case rest =>
              obtain ⟨Na, Nb, rfl, rfl, HBa, HBb, UX⟩ := hcut
              obtain ⟨m0, m1, m2, m3, m4⟩ := HBa.out.cells
              obtain ⟨n0, n1, n2, n3, n4⟩ := HBb.out.cells
              have hid1 : (x.id == y.id) = false := by have := HAP.out.1; simp [this]
              clear p0 x0 x1 x2 x3 x4 y0 y1 y2 y3 y4 KE
              by_cases hll : x.lvl = y.lvl
              case neg =>
                have hll' : (x.lvl == y.lvl) = false := by simp [hll]
                go_wp2_with fail
                exact ⟨⟨k + 1, by omega, by go_num, up_trans HBk.out UX.out⟩, by simp [intOf]; omega⟩
              have hll' : (x.lvl == y.lvl) = true := by simp [hll]
              by_cases hl0 : 0 < x.lvl
              case neg =>
                clear hll
                go_wp2_with fail
                exact ⟨⟨k + 1, by omega, by go_num, up_trans HBk.out UX.out⟩, by simp [intOf]; omega⟩
              have hle2 : (Op.bytesLess y.low.toList x.high.toList || (y.low.toList == x.high.toList)) = false := HAP.out.2 hll hl0
              clear hll
              cases hle : (Op.bytesLess x.low.toList y.high.toList || (x.low.toList == y.high.toList))
              · 
                go_wp2_with fail
                exact ⟨⟨k + 1, by omega, by go_num, up_trans HBk.out UX.out⟩, by simp [intOf]; omega⟩
              · 
                go_wp2_with fail
                exact ⟨⟨k + 1, by omega, by go_num, up_trans HBk.out UX.out⟩, by simp [intOf]; omega⟩
          · have hki' : ¬ (k : Int) < (i : Int) := by omega
            go_wp2_with fail
            exact ⟨⟨i + 1, by omega, by go_num, HBk⟩, by simp [intOf]; omega⟩
      · have hil' : ¬ (i : Int) < (R1.length : Int) := by omega
        have B5i := hid (blk_up B5.out HBi.out)
        have B0i := hid (blk_up B0c.out HBi.out)
        have HCK : Hid (Calls Try.prog 20 #[.agg #[.slice a5 R1.length c5, .int .i64 seq2, .int .i64 next2]] wr fun e w' => e = .returned (.int .i64 0) ∧ Hid (Below wr.heap.size wr w')) := by
          have := check_any R1 seq2 next2 a5 R1.length c5 wr (O5.out.up HBi.out)
          rw [errV_zero.2 HCH.out] at this
          exact this
        have p1 := blk_cell B5i.out 1 _ rfl
        have p2 := blk_cell B5i.out 2 _ rfl
        go_wp2_with fail
        refine HCK.out.mono ?_
        rintro e w7 ⟨rfl, u7⟩
        go_wp2_with fail
        refine (HNU.out _ _).mono ?_
        rintro e w8 ⟨rfl, hw8⟩
        subst hw8
        clear p0 p1 p2
        have B58 := hid (blk_up B5i.out u7.out)
        have B08 := hid (blk_up B0i.out u7.out)
        have p1 := blk_cell B58.out 1 _ rfl
        have p2 := blk_cell B58.out 2 _ rfl
        have q1 := blk_cell B08.out 1 _ rfl
        have q2 := blk_cell B08.out 2 _ rfl
        have g1 : seq ≤ seq2 := by have := HRG.out; omega
        have g2 : next ≤ next2 := by have := HRG.out; omega
        go_wp2_with fail
        go_ret
        exact ⟨rfl, up_trans UC.out (up_trans HBi.out u7.out)⟩
end Go.Proofs.Ytbknoplfjfnbcaa
