/- EditWhole: the edit that makes a version makes it of none. -/
import Derived.Test.YtbknoplfjfnbcaaLApart
import Derived.Test.YtbknoplfjfnbcaaRChk
namespace Go.Proofs.Ytbknoplfjfnbcaa
open Go.RowKit
set_option linter.unusedVariables false
set_option linter.unusedSimpArgs false

theorem four {W : World} {N1 : Nat} {d e f g : Value} {u : TypeId} (h1 : W.heap[N1]? = some (.cells #[d, e, f, g] u)) : W.cell? ⟨N1, 0, none⟩ = some d ∧ W.cell? ⟨N1, 1, none⟩ = some e ∧ W.cell? ⟨N1, 2, none⟩ = some f ∧ W.cell? ⟨N1, 3, none⟩ = some g :=
  ⟨blk_cell h1 0 _ rfl, blk_cell h1 1 _ rfl, blk_cell h1 2 _ rfl, blk_cell h1 3 _ rfl⟩

theorem whole_bad (ts : List Me) (seq next : Int) (va : Option Addr) (vn vc : Nat) (w : World) (hv : MetsR w (.slice va vn vc) ts) (h : errV ts seq next = 9) :
    Calls Try.prog 12 #[.agg #[.slice va vn vc, .int .i64 seq, .int .i64 next]] w fun e w' => e = .returned (.tuple #[.agg #[.slice none 0 0, .slice none 0 0, .int .i64 0, .int .i64 0], .int .i64 9]) ∧ Below w.heap.size w w' :=
  (whole_any ts seq next va vn vc w hv).mono fun e w' q => by
    unfold WhoE at q
    rw [if_neg (by rw [h]; decide)] at q
    exact q
theorem whole_good (ts : List Me) (seq next : Int) (va : Option Addr) (vn vc : Nat) (w : World) (hv : MetsR w (.slice va vn vc) ts) (h : errV ts seq next = 0) :
    Calls Try.prog 12 #[.agg #[.slice va vn vc, .int .i64 seq, .int .i64 next]] w fun e w' => ∃ a n c, e = .returned (.tuple #[.agg #[.slice none 0 0, .slice a n c, .int .i64 seq, .int .i64 next], .int .i64 0]) ∧ OwnR w' w.heap.size 65 5 (.slice a n c) (ts.map meRow) ∧ Below w.heap.size w w' :=
  (whole_any ts seq next va vn vc w hv).mono fun e w' q => by
    unfold WhoE at q
    rw [if_pos h] at q
    exact q

set_option maxHeartbeats 8000000 in
set_option maxRecDepth 100000 in
theorem whole_walk (ts : List Me) (seq next : Int) (va : Option Addr) (vn vc : Nat) (w : World)
    (hv : MetsR w (.slice va vn vc) ts) (htl : ts.length ≤ 4000000000000) :
    Calls Try.prog 5 #[.agg #[.slice va vn vc, .int .i64 seq, .int .i64 next]] w fun e w' => e = .returned (.bool true) ∧ Hid (Below w.heap.size w w') := by
  have HV : Hid (MetsR w (.slice va vn vc) ts) := hv
  clear hv
  obtain ⟨w0, hw0⟩ : ∃ w0, w0 = w.alloc (.cells #[.slice va vn vc, .int .i64 seq, .int .i64 next] 24) := ⟨_, rfl⟩
  have HW0 : Hid (w.alloc (.cells #[.slice va vn vc, .int .i64 seq, .int .i64 next] 24) = w0) := hw0.symm
  have U0 : Hid (Below w.heap.size w w0) := by rw [hw0]; exact up_alloc _ _
  have B0 : Hid (w0.heap[w.heap.size]? = some (.cells #[.slice va vn vc, .int .i64 seq, .int .i64 next] 24)) := by rw [hw0]; exact blk_new _ _
  clear hw0
  have HAL : Hid (∀ w, Calls Try.prog 22 #[] w fun e w' => e = .returned (.bool true) ∧ Hid (Below w.heap.size w w')) := alive_any
  have HNU : Hid (∀ n w, Calls Try.prog 17 #[.int .i64 n] w fun e w' => e = .returned (.int .i64 n) ∧ w' = w) := num_any
  go_enter Try.func5, Try.ntmps5
  go_upto_region 1 with fail
  rw [HW0.out]
  clear HW0
  go_wp2_with fail
  refine (HAL.out _).mono ?_
  rintro e w1 ⟨rfl, u1⟩
  have U1 := hid (up_trans U0.out u1.out)
  replace B0 := hid (blk_up B0.out u1.out)
  clear u1 U0 HAL
  clear w0
  have x0 := blk_cell B0.out 0 _ rfl
  have x1 := blk_cell B0.out 1 _ rfl
  have x2 := blk_cell B0.out 2 _ rfl
  have HOF := hid (of_any ts seq next va vn vc w1 (HV.out.up U1.out) htl)
  go_wp2_with fail
  refine HOF.out.mono ?_
  rintro e w2 ⟨a2, n2, c2, rfl, O2, u2⟩
  have U2 := hid (up_trans U1.out u2.out)
  replace B0 := hid (blk_up B0.out u2.out)
  clear u2 HOF x0 x1 x2 U1
  rcases errV_cases ts seq next with hc | hc
  case inr =>
    have HWH := hid (whole_bad ts seq next a2 n2 c2 w2 (VerO.read O2.out) hc)
    have HRC : Hid (∀ W, Below w.heap.size w W → Calls Try.prog 21 #[.agg #[.slice va vn vc, .int .i64 seq, .int .i64 next]] W fun e w' => e = .returned (.int .i64 9) ∧ Hid (Below W.heap.size W w')) := by
      intro W h
      have := refCheck_any ts seq next va vn vc W (HV.out.up h)
      rw [hc] at this
      exact this
    clear hc
    go_wp2_with fail
    refine HWH.out.mono ?_
    rintro e w3 ⟨rfl, u3⟩
    have U3 := hid (up_trans U2.out u3)
    have UA : Hid (Below w.heap.size w (w3.alloc (.cells #[.slice none 0 0, .slice none 0 0, .int .i64 0, .int .i64 0] 33))) := up_al U3.out _
    have BA := hid (blk_up (blk_up B0.out u3) (up_alloc w3 (.cells #[.slice none 0 0, .slice none 0 0, .int .i64 0, .int .i64 0] 33)))
    have y0 := blk_cell BA.out 0 _ rfl
    have y1 := blk_cell BA.out 1 _ rfl
    have y2 := blk_cell BA.out 2 _ rfl
    clear u3
    go_wp2_with fail
    refine (HNU.out _ _).mono ?_
    rintro e w4 ⟨rfl, hw4⟩
    subst hw4
    go_wp2_with fail
    refine (HRC.out _ UA.out).mono ?_
    rintro e w5 ⟨rfl, u5⟩
    go_wp2_with fail
    go_ret
    exact ⟨rfl, up_trans UA.out u5.out⟩
  have HWH := hid (whole_good ts seq next a2 n2 c2 w2 (VerO.read O2.out) hc)
  have HC0 : Hid (errV ts seq next = 0) := hc
  clear hc
  go_wp2_with fail
  refine HWH.out.mono ?_
  rintro e w3 ⟨a3, n3, c3, rfl, hO3, u3⟩
  have U3 := hid (up_trans U2.out u3)
  replace B0 := hid (blk_up B0.out u3)
  have M3 : Hid (MetsR w3 (.slice a3 n3 c3) ts) := Rws.own hO3
  clear u3 hO3 HWH U2 O2
  obtain ⟨w4, hw4⟩ : ∃ w4, w4 = w3.alloc (.cells #[.slice none 0 0, .slice a3 n3 c3, .int .i64 seq, .int .i64 next] 33) := ⟨_, rfl⟩
  have HW4 : Hid (w3.alloc (.cells #[.slice none 0 0, .slice a3 n3 c3, .int .i64 seq, .int .i64 next] 33) = w4) := hw4.symm
  have u4 : Hid (Below w3.heap.size w3 w4) := by rw [hw4]; exact up_alloc _ _
  have B3 : Hid (w4.heap[w3.heap.size]? = some (.cells #[.slice none 0 0, .slice a3 n3 c3, .int .i64 seq, .int .i64 next] 33)) := by rw [hw4]; exact blk_new _ _
  clear hw4
  go_upto_region 4 with fail
  rw [HW4.out]
  clear HW4
  have U4 := hid (up_trans U3.out u4.out)
  replace B0 := hid (blk_up B0.out u4.out)
  have M4 := hid (M3.out.up u4.out)
  have HN3 : Hid (w3.heap.size < w4.heap.size) := blk_lt B3.out
  clear u4 M3 U3
  generalize w3.heap.size = N3 at *
  clear w3 w2 w1
  go_wp2_with fail
  refine (HNU.out _ _).mono ?_
  rintro e w5 ⟨rfl, hw5⟩
  subst hw5
  obtain ⟨x0, x1, x2, x3⟩ := four B3.out
  have HCE : Hid (∀ W, Below w5.heap.size w5 W → W.cell? ⟨N3, 0, none⟩ = some (.slice none 0 0) ∧ W.cell? ⟨N3, 1, none⟩ = some (.slice a3 n3 c3) ∧ W.cell? ⟨N3, 2, none⟩ = some (.int .i64 seq) ∧ W.cell? ⟨N3, 3, none⟩ = some (.int .i64 next)) := fun W h => four (blk_up B3.out h)
  have C26 : Hid (∀ W, Below w5.heap.size w5 W → Calls Try.prog 26 #[] W fun e w' => e = .returned (.agg #[.slice none 0 0, .int .i64 0, .int .i64 1]) ∧ Hid (Below w5.heap.size w5 w') ∧ Hid (Below W.heap.size W w')) := by
    intro W u
    refine (new_any W).mono ?_
    rintro e w' ⟨rfl, hb⟩
    exact ⟨rfl, up_trans u hb.out, hb⟩
  have C10 : Hid (∀ W, Below w5.heap.size w5 W → Calls Try.prog 10 #[.agg #[.slice none 0 0, .int .i64 0, .int .i64 1], .agg #[.slice none 0 0, .slice a3 n3 c3, .int .i64 seq, .int .i64 next]] W fun e w' => ∃ a l c, e = .returned (.tuple #[.agg #[.slice a l c, .int .i64 seq, .int .i64 next], .int .i64 0]) ∧ Hid (OwnR w' w5.heap.size 65 5 (.slice a l c) (ts.map meRow)) ∧ Hid (Below w5.heap.size w5 w') ∧ Hid (Below W.heap.size W w')) := by
    intro W u
    have hl : ts.length ≤ 4000000000000 := htl
    have := apply_any [] 0 1 [] ts seq next none none a3 0 0 0 0 n3 c3 W (Rws.nil _ _) (Rws.nil _ _) (M4.out.up u) (by simp) hl
    rw [app_whole (errV_zero.1 HC0.out)] at this
    refine this.mono ?_
    rintro e w' ⟨a, l, c, he, hO, hb⟩
    exact ⟨a, l, c, he, hO.mono u.size, up_trans u hb, hb⟩
  have D0 : Hid (Below w5.heap.size w5 w5.drew) := up_dr (Below.refl _ _)
  have DA : Hid (Below w5.heap.size w5 (w5.alloc (.cells #[.slice none 0 0, .int .i64 0, .int .i64 0] 30)).drew) := up_dr (up_alloc _ _)
  have CA : Hid (∀ W, Below w5.heap.size w5 W → ∀ o, (W.alloc o).cell? ⟨N3, 0, none⟩ = some (.slice none 0 0) ∧ (W.alloc o).cell? ⟨N3, 1, none⟩ = some (.slice a3 n3 c3) ∧ (W.alloc o).cell? ⟨N3, 2, none⟩ = some (.int .i64 seq) ∧ (W.alloc o).cell? ⟨N3, 3, none⟩ = some (.int .i64 next)) := fun W h o => HCE.out _ (up_al h o)
  have CS : Hid (∀ W, Below w5.heap.size w5 W → ∀ N, w5.heap.size ≤ N → ∀ a b c, (((W.setCell ⟨N, 0, none⟩ a).setCell ⟨N, 1, none⟩ b).setCell ⟨N, 2, none⟩ c).cell? ⟨N3, 0, none⟩ = some (.slice none 0 0) ∧ (((W.setCell ⟨N, 0, none⟩ a).setCell ⟨N, 1, none⟩ b).setCell ⟨N, 2, none⟩ c).cell? ⟨N3, 1, none⟩ = some (.slice a3 n3 c3) ∧ (((W.setCell ⟨N, 0, none⟩ a).setCell ⟨N, 1, none⟩ b).setCell ⟨N, 2, none⟩ c).cell? ⟨N3, 2, none⟩ = some (.int .i64 seq) ∧ (((W.setCell ⟨N, 0, none⟩ a).setCell ⟨N, 1, none⟩ b).setCell ⟨N, 2, none⟩ c).cell? ⟨N3, 3, none⟩ = some (.int .i64 next)) := by
    intro W h N hN a b c
    exact four (blk_grown (blk_up B3.out h) (set3_grown W N a b c) (by intro q; injection q with q; have := HN3.out; omega))
  have CR : Hid (w5.drew.cell? ⟨N3, 0, none⟩ = some (.slice none 0 0) ∧ w5.drew.cell? ⟨N3, 1, none⟩ = some (.slice a3 n3 c3) ∧ w5.drew.cell? ⟨N3, 2, none⟩ = some (.int .i64 seq) ∧ w5.drew.cell? ⟨N3, 3, none⟩ = some (.int .i64 next)) := HCE.out _ D0.out
  have CRA : Hid ((w5.alloc (.cells #[.slice none 0 0, .int .i64 0, .int .i64 0] 30)).drew.cell? ⟨N3, 0, none⟩ = some (.slice none 0 0) ∧ (w5.alloc (.cells #[.slice none 0 0, .int .i64 0, .int .i64 0] 30)).drew.cell? ⟨N3, 1, none⟩ = some (.slice a3 n3 c3) ∧ (w5.alloc (.cells #[.slice none 0 0, .int .i64 0, .int .i64 0] 30)).drew.cell? ⟨N3, 2, none⟩ = some (.int .i64 seq) ∧ (w5.alloc (.cells #[.slice none 0 0, .int .i64 0, .int .i64 0] 30)).drew.cell? ⟨N3, 3, none⟩ = some (.int .i64 next)) := HCE.out _ DA.out
  have pq := hid (CA.out w5 (Below.refl _ _))
  go_wp2_with fail
  go_cut [5, 6] from 27 to 32 (fun s5 s6 wx => ∃ N5 : Nat, s5 = .pointer (some ⟨N5, 0, none⟩) ∧ s6 = .int .i64 0 ∧ Hid (VBox wx w5.heap.size N5 ts seq next) ∧ Hid (Below w5.heap.size w5 wx))
  case first =>
    go_region_held3 (fun w' => w'.cell? ⟨N3, 0, none⟩ = some (.slice none 0 0) ∧ w'.cell? ⟨N3, 1, none⟩ = some (.slice a3 n3 c3) ∧ w'.cell? ⟨N3, 2, none⟩ = some (.int .i64 seq) ∧ w'.cell? ⟨N3, 3, none⟩ = some (.int .i64 next)) (first | with_reducible exact ⟨x0, x1, x2, x3⟩ | with_reducible exact HC6.out | with_reducible exact HC7.out | with_reducible exact pq.out _ | with_reducible exact CR.out | with_reducible exact CRA.out | with_reducible exact CA.out _ u6.out _ | with_reducible exact CA.out _ u7.out _ | with_reducible exact CS.out _ u7.out _ u6.out.size _ _ _ | with_reducible exact CS.out _ u7.out _ (Nat.le_refl _) _ _ _ | (simp [go_sem, x0, x1, x2, x3]; done)) (first
      | (go_at_call 26; with_reducible refine (C26.out _ D0.out).mono ?_; rintro e w6 ⟨rfl, u6, v6⟩; have HC6 := hid (HCE.out _ u6.out))
      | (go_at_call 26; with_reducible refine (C26.out _ DA.out).mono ?_; rintro e w6 ⟨rfl, u6, v6⟩; have HC6 := hid (HCE.out _ u6.out); have BZ := hid (blk_up (w := (w5.alloc (.cells #[.slice none 0 0, .int .i64 0, .int .i64 0] 30)).drew) (blk_new w5 (.cells #[.slice none 0 0, .int .i64 0, .int .i64 0] 30)) v6.out))
      | (go_at_call 10; with_reducible refine (C10.out _ u6.out).mono ?_; rintro e w7 ⟨a7, n7, c7, rfl, O7, u7, v7⟩; have HC7 := hid (HCE.out _ u7.out); have BZ := hid (blk_up BZ.out v7.out); have r0 := blk_cell BZ.out 0 _ rfl; have r1 := blk_cell BZ.out 1 _ rfl; have r2 := blk_cell BZ.out 2 _ rfl; have f0 := blk_frozen BZ.out 0; have f1 := blk_frozen BZ.out 1; have f2 := blk_frozen BZ.out 2)
      | (go_at_call 10; with_reducible refine (C10.out _ u6.out).mono ?_; rintro e w7 ⟨a7, n7, c7, rfl, O7, u7, v7⟩; have HC7 := hid (HCE.out _ u7.out))
      | (go_at_call 10; with_reducible refine (C10.out _ (up_al u6.out _)).mono ?_; rintro e w7 ⟨a7, n7, c7, rfl, O7, u7, v7⟩; have HC7 := hid (HCE.out _ u7.out); have BZ := hid (blk_up (blk_new w6 (.cells #[.slice none 0 0, .int .i64 0, .int .i64 0] 30)) v7.out); have r0 := blk_cell BZ.out 0 _ rfl; have r1 := blk_cell BZ.out 1 _ rfl; have r2 := blk_cell BZ.out 2 _ rfl; have f0 := blk_frozen BZ.out 0; have f1 := blk_frozen BZ.out 1; have f2 := blk_frozen BZ.out 2))
    all_goals
      go_wp2_with fail
      go_meet
      case rel =>
        first
          | exact ⟨_, rfl, rfl, ⟨a7, n7, c7, blk_new _ _, O7.out.up (up_alloc _ _)⟩, up_al u7.out _⟩
          | exact ⟨_, rfl, rfl, ⟨a7, n7, c7, set3_blk BZ.out _ _ _, OwnR.far O7.out (set3_grown _ _ _ _ _) (own_blk_ne O7.out.2 BZ.out (by decide))⟩, u7.out.trans (below_grown (set3_grown w7 _ _ _ _) u7.out.size (fun k hk => by injection hk with hk; have := u6.out.size; omega))⟩
  case rest =>
    obtain ⟨N5, rfl, rfl, HB5, U5⟩ := hcut
    obtain ⟨a5, n5, c5, hb5, hO5⟩ := HB5.out
    have B5 : Hid (wc.heap[N5]? = some (.cells #[.slice a5 n5 c5, .int .i64 seq, .int .i64 next] 30)) := hb5
    have O5 : Hid (MetsR wc (.slice a5 n5 c5) ts) := Rws.own hO5
    have B0c := hid (blk_up B0.out U5.out)
    have B3c := hid (blk_up B3.out U5.out)
    have UC := hid (up_trans U4.out U5.out)
    clear hb5 hO5 HB5 C26 C10 D0 DA CA CS CR CRA pq HCE x0 x1 x2 x3 U5 B0 B3
    have HAK := hid (alike_self ts seq next a5 va n5 c5 vn vc wc O5.out (HV.out.up UC.out))
    have p0 := blk_cell B5.out 0 _ rfl
    have p1 := blk_cell B5.out 1 _ rfl
    have p2 := blk_cell B5.out 2 _ rfl
    have q0 := blk_cell B0c.out 0 _ rfl
    have q1 := blk_cell B0c.out 1 _ rfl
    have q2 := blk_cell B0c.out 2 _ rfl
    go_wp2_with fail
    refine (HNU.out _ _).mono ?_
    rintro e w6 ⟨rfl, hw6⟩
    subst hw6
    go_wp2_with fail
    refine HAK.out.mono ?_
    rintro e w7 ⟨rfl, u7⟩
    have B37 := hid (blk_up B3c.out u7.out)
    clear p0 p1 p2 q0 q1 q2
    have p0 := blk_cell B37.out 0 _ rfl
    go_wp2_with fail
    go_ret
    exact ⟨rfl, up_trans UC.out u7.out⟩
end Go.Proofs.Ytbknoplfjfnbcaa
