/- The texts OSwi, OArg, in this order. -/
import Derived.Test.YtnchjlimkgbfpaaGreatDoorG36
import Derived.Test.YtnchjlimkgbfpaaGreatDoorG44
import Derived.Test.YtnchjlimkgbfpaaGreatDoorRChk
import Derived.Test.YtnchjlimkgbfpaaGreatDoorG35
import Derived.Test.YtnchjlimkgbfpaaGreatDoorG37
import Derived.WideShapes

/- The law of the switch. -/
namespace Go.Proofs.YtnchjlimkgbfpaaGreatDoor
open Go.RowKit
set_option linter.unusedVariables false
set_option linter.unusedSimpArgs false
set_option maxRecDepth 20000
set_option maxHeartbeats 8000000 in
theorem switches_walk (ts ts2 : List Me) (sq nx sq2 nx2 x : Int) (va ua ka : Option Addr) (vn vc un uc kn kc : Nat) (keep : List Int) (w : World) (hm : MetsR w (.slice va vn vc) ts) (htl : ts.length ≤ 4000000000000) (hm2 : MetsR w (.slice ua un uc) ts2) (htl2 : ts2.length ≤ 4000000000000) (hx : In64 x) (hk : IntsW w (.slice ka kn kc) keep) (he : EnvL w) :
    Calls Tryz.prog 5 #[.agg #[.slice va vn vc, .int .i64 sq, .int .i64 nx], .agg #[.slice ua un uc, .int .i64 sq2, .int .i64 nx2], .int .i64 x, .slice ka kn kc] w fun e w' => e = .returned (.bool true) ∧ Hid (Below w.heap.size w w') := by
  have HM : Hid (MetsR w (.slice va vn vc) ts) := hm
  have HM2 : Hid (MetsR w (.slice ua un uc) ts2) := hm2
  have HE : Hid (EnvL w) := he
  have HK : Hid (IntsW w (.slice ka kn kc) keep) := hk
  have HX : Hid (In64 x) := hx
  have HD := hid (begun_d0 ts sq nx)
  obtain ⟨w0, hw0⟩ : ∃ w0, w0 = (w.alloc (.cells #[.slice va vn vc, .int .i64 sq, .int .i64 nx] 28)).alloc (.cells #[.slice ua un uc, .int .i64 sq2, .int .i64 nx2] 28) := ⟨_, rfl⟩
  have HW0 : Hid ((w.alloc (.cells #[.slice va vn vc, .int .i64 sq, .int .i64 nx] 28)).alloc (.cells #[.slice ua un uc, .int .i64 sq2, .int .i64 nx2] 28) = w0) := hid hw0.symm
  have U0 : Hid (Below w.heap.size w w0) := by rw [hw0]; exact up_al (up_alloc _ _) _
  have sz1 : ∀ (W : World) (o : Obj), (W.alloc o).heap.size = W.heap.size + 1 := fun W o => by simp
  have B0 : Hid (w0.heap[w.heap.size]? = some (.cells #[.slice va vn vc, .int .i64 sq, .int .i64 nx] 28)) := by rw [hw0]; exact blk_up (blk_new _ _) (up_alloc _ _)
  have B1 : Hid (w0.heap[w.heap.size + 1]? = some (.cells #[.slice ua un uc, .int .i64 sq2, .int .i64 nx2] 28)) := by
    rw [hw0, ← sz1 w (.cells #[.slice va vn vc, .int .i64 sq, .int .i64 nx] 28)]
    exact blk_new _ _
  clear hw0 hm hm2 he hk hx sz1
  go_enter Tryz.func5, Tryz.ntmps5
  go_upto_region 1 with fail
  rw [HW0.out]
  clear HW0
  generalize hN1 : w.heap.size + 1 = N1 at *
  clear hN1
  have HCE : Hid (∀ W, Below w0.heap.size w0 W → (W.cell? ⟨w.heap.size, 0, none⟩ = some (.slice va vn vc) ∧ W.cell? ⟨w.heap.size, 1, none⟩ = some (.int .i64 sq) ∧ W.cell? ⟨w.heap.size, 2, none⟩ = some (.int .i64 nx)) ∧ W.cell? ⟨N1, 0, none⟩ = some (.slice ua un uc) ∧ W.cell? ⟨N1, 1, none⟩ = some (.int .i64 sq2) ∧ W.cell? ⟨N1, 2, none⟩ = some (.int .i64 nx2)) := fun W h => ⟨⟨blk_cell (blk_up B0.out h) 0 _ rfl, blk_cell (blk_up B0.out h) 1 _ rfl, blk_cell (blk_up B0.out h) 2 _ rfl⟩, blk_cell (blk_up B1.out h) 0 _ rfl, blk_cell (blk_up B1.out h) 1 _ rfl, blk_cell (blk_up B1.out h) 2 _ rfl⟩
  clear B0 B1
  go_wp2_with fail
  refine (alive_any w0 (HE.out.up U0.out)).mono ?_
  rintro e w1 ⟨rfl, u1⟩
  have u1 := hid u1
  go_wp2_with fail
  refine (new_any 1048576 (by unfold In64; omega) w1).mono ?_
  rintro e w2 ⟨v2, rfl, o2, u2⟩
  rw [new_d0] at o2
  obtain ⟨af, nf, cf, an, nn, cn, as', ns, cs', ev2⟩ := o2.shape
  subst ev2
  have S2 := hid (StW.own o2)
  have u2 := hid (up_trans u1.out u2)
  clear o2
  obtain ⟨w3, hw3⟩ : ∃ w3, w3 = w2.alloc (.cells #[.int .i64 d0.cap, .slice af nf cf, .slice an nn cn, .slice as' ns cs', .int .i64 d0.next] 35) := ⟨_, rfl⟩
  have HW3 : Hid (w2.alloc (.cells #[.int .i64 d0.cap, .slice af nf cf, .slice an nn cn, .slice as' ns cs', .int .i64 d0.next] 35) = w3) := hid hw3.symm
  have V3 : Hid (Below w2.heap.size w2 w3) := by rw [hw3]; exact up_alloc _ _
  have u3 : Hid (Below w0.heap.size w0 w3) := up_trans u2.out V3.out
  have B3 : Hid (w3.heap[w2.heap.size]? = some (.cells #[.int .i64 d0.cap, .slice af nf cf, .slice an nn cn, .slice as' ns cs', .int .i64 d0.next] 35)) := by rw [hw3]; exact blk_new _ _
  have S3 := hid (S2.out.up V3.out)
  have HN9 : Hid (w0.heap.size ≤ w2.heap.size) := u2.out.size
  clear hw3 S2
  rw [new_d0]
  go_upto_region 4 with fail
  rw [HW3.out]
  clear HW3
  generalize hN9 : w2.heap.size = N9 at *
  clear hN9
  obtain ⟨⟨x0, x1, x2⟩, -⟩ := HCE.out w3 u3.out
  have z0 := blk_cell B3.out 0 _ rfl
  have z1 := blk_cell B3.out 1 _ rfl
  have z2 := blk_cell B3.out 2 _ rfl
  have z3 := blk_cell B3.out 3 _ rfl
  have z4 := blk_cell B3.out 4 _ rfl
  go_wp2_with fail
  refine (begun_any d0 _ ts sq nx 1 va vn vc w3 good_d0 S3.out (HM.out.up (up_trans U0.out u3.out)) htl (HE.out.up (up_trans U0.out u3.out))).mono ?_
  rintro e w4 ⟨v4, rfl, S4, b4, O4⟩
  generalize begunP d0 ts sq nx 1 = R at *
  obtain ⟨bf, mf, df, bn, mn, dn, bs, ms, ds, ev4⟩ := S4.out.shape
  subst ev4
  have u4 : Hid (Below w0.heap.size w0 w4) := up_trans u3.out b4.out
  have B4 : Hid (w4.heap[N9]? = some (.cells #[.int .i64 d0.cap, .slice af nf cf, .slice an nn cn, .slice as' ns cs', .int .i64 d0.next] 35)) := blk_up B3.out b4.out
  obtain ⟨w5, hw5⟩ : ∃ w5, w5 = ((((w4.setCell ⟨N9, 0, none⟩ (.int .i64 R.1.cap)).setCell ⟨N9, 1, none⟩ (.slice bf mf df)).setCell ⟨N9, 2, none⟩ (.slice bn mn dn)).setCell ⟨N9, 3, none⟩ (.slice bs ms ds)).setCell ⟨N9, 4, none⟩ (.int .i64 R.1.next) := ⟨_, rfl⟩
  have HW5 : Hid (((((w4.setCell ⟨N9, 0, none⟩ (.int .i64 R.1.cap)).setCell ⟨N9, 1, none⟩ (.slice bf mf df)).setCell ⟨N9, 2, none⟩ (.slice bn mn dn)).setCell ⟨N9, 3, none⟩ (.slice bs ms ds)).setCell ⟨N9, 4, none⟩ (.int .i64 R.1.next) = w5) := hid hw5.symm
  have u5 : Hid (Below w0.heap.size w0 w5) := by rw [hw5]; exact up_set5 u4.out HN9.out
  have B5 : Hid (w5.heap[N9]? = some (.cells #[.int .i64 R.1.cap, .slice bf mf df, .slice bn mn dn, .slice bs ms ds, .int .i64 R.1.next] 35)) := by rw [hw5]; exact set5_blkS B4.out _ _ _ _ _
  have S5 : Hid (R.2 = true → StW w5 (.agg #[.int .i64 R.1.cap, .slice bf mf df, .slice bn mn dn, .slice bs ms ds, .int .i64 R.1.next]) R.1) := by rw [hw5]; exact fun h => StW.own (OwnV.put (O4.out h) B4.out).2
  have f0 := blk_frozen B4.out 0
  have f1 := blk_frozen B4.out 1
  have f2 := blk_frozen B4.out 2
  have f3 := blk_frozen B4.out 3
  have f4 := blk_frozen B4.out 4
  have z0 := blk_cell B4.out 0 _ rfl
  have z1 := blk_cell B4.out 1 _ rfl
  have z2 := blk_cell B4.out 2 _ rfl
  have z3 := blk_cell B4.out 3 _ rfl
  have z4 := blk_cell B4.out 4 _ rfl
  clear hw5
  go_upto_region 5 with fail
  rw [HW5.out]
  clear HW5 f0 f1 f2 f3 f4 z0 z1 z2 z3 z4 x0 x1 x2 B3 B4 S3 S4 O4
  by_cases c0 : errV ts sq nx = 0
  case neg =>
    have HR : Hid (R = (d0, false)) := by rw [HD.out, if_neg c0]; exact hid rfl
    have c0b : (errV ts sq nx != 0) = true := by simpa using c0
    obtain ⟨⟨x0, x1, x2⟩, -⟩ := HCE.out w5 u5.out
    rw [show R.2 = false by rw [HR.out]]
    go_wp2_with fail
    refine (num_any _ _).mono ?_
    rintro e w6 ⟨rfl, hw6⟩
    have hw6 := hw6.symm
    subst hw6
    go_wp2_with fail
    refine (num_any _ _).mono ?_
    rintro e w6 ⟨rfl, hw6⟩
    have hw6 := hw6.symm
    subst hw6
    go_wp2_with fail
    refine (refCheck_anyE ts sq nx va vn vc w5 (HM.out.up (up_trans U0.out u5.out))).mono ?_
    rintro e w7 ⟨rfl, b7⟩
    go_wp2_with fail
    go_ret
    exact ⟨rfl, up_trans U0.out (up_trans u5.out b7.out)⟩
  have HR1 : Hid (R.1 = d1 [109, 49] (edF sq nx [] ts) (ptrF 1)) := by rw [HD.out, if_pos c0]; exact hid rfl
  have HR2 : R.2 = true := by rw [HD.out, if_pos c0]
  have S5 := hid (S5.out HR2)
  rw [HR2]
  clear HR2 HD
  generalize R.1 = D at *
  have HGD : Hid (Good D) := by rw [HR1.out]; exact good_m1 c0
  have HOk := hid (begP_ok (s := D) (ts := ts2) (sq := sq2) (nx := nx2) (id := 2))
  have HBd : Hid (begP D ts2 sq2 nx2 2 = if errV ts2 sq2 nx2 = 0 then (begA [109, 50] (edF sq2 nx2 [] ts2) (ptrF 2), 0) else ([], 9)) := by rw [HR1.out]; exact begP_d1 c0
  have HSw : Hid (errV ts2 sq2 nx2 = 0 → ∀ j, j ≤ 9 → loadP (crashP (runP D ((begA [109, 50] (edF sq2 nx2 [] ts2) (ptrF 2)).take j)).1 keep).1 = ((ts, sq, nx), 1, 0) ∨ loadP (crashP (runP D ((begA [109, 50] (edF sq2 nx2 [] ts2) (ptrF 2)).take j)).1 keep).1 = ((ts2, sq2, nx2), 2, 0)) := by rw [HR1.out]; exact fun h j hj => swi_any c0 h keep j hj
  have HSn : Hid (errV ts2 sq2 nx2 = 0 → loadP (crashP (runP D (begA [109, 50] (edF sq2 nx2 [] ts2) (ptrF 2))).1 keep).1 = ((ts2, sq2, nx2), 2, 0)) := by rw [HR1.out]; exact fun h => switch_new (errV_zero.1 c0) (errV_zero.1 h) keep
  clear HR1
  have HCF : Hid (∀ W, Below w5.heap.size w5 W → (W.cell? ⟨N9, 0, none⟩ = some (.int .i64 D.cap) ∧ W.cell? ⟨N9, 1, none⟩ = some (.slice bf mf df) ∧ W.cell? ⟨N9, 2, none⟩ = some (.slice bn mn dn) ∧ W.cell? ⟨N9, 3, none⟩ = some (.slice bs ms ds) ∧ W.cell? ⟨N9, 4, none⟩ = some (.int .i64 D.next)) ∧ W.cell? ⟨N1, 0, none⟩ = some (.slice ua un uc) ∧ W.cell? ⟨N1, 1, none⟩ = some (.int .i64 sq2) ∧ W.cell? ⟨N1, 2, none⟩ = some (.int .i64 nx2)) := fun W h => ⟨⟨blk_cell (blk_up B5.out h) 0 _ rfl, blk_cell (blk_up B5.out h) 1 _ rfl, blk_cell (blk_up B5.out h) 2 _ rfl, blk_cell (blk_up B5.out h) 3 _ rfl, blk_cell (blk_up B5.out h) 4 _ rfl⟩, (HCE.out W (up_trans u5.out h)).2⟩
  have C8 : Hid (∀ W, Below w5.heap.size w5 W → Calls Tryz.prog 8 #[.agg #[.slice ua un uc, .int .i64 sq2, .int .i64 nx2]] W fun e w' => ∃ a n c, e = .returned (.agg #[.slice a n c, .int .i64 sq2, .int .i64 nx2]) ∧ Hid (MetsR w' (.slice a n c) ts2) ∧ Hid (Below w5.heap.size w5 w')) := by
    intro W u
    refine (of_anyE ts2 sq2 nx2 ua un uc W (HM2.out.up (up_trans U0.out (up_trans u5.out u))) htl2).mono ?_
    rintro e w' ⟨a, n, c, rfl, hO, hb⟩
    exact ⟨a, n, c, rfl, Rws.own hO.out, up_trans u hb.out⟩
  have C10 : Hid (∀ a n c W, Below w5.heap.size w5 W → MetsR W (.slice a n c) ts2 → Calls Tryz.prog 10 #[.agg #[.int .i64 D.cap, .slice bf mf df, .slice bn mn dn, .slice bs ms ds, .int .i64 D.next], .agg #[.slice a n c, .int .i64 sq2, .int .i64 nx2], .int .i64 2] W fun e w' => ∃ a' n' c', e = .returned (.tuple #[.slice a' n' c', .int .i64 (begP D ts2 sq2 nx2 2).2]) ∧ Hid (ActsW w' (.slice a' n' c') (begP D ts2 sq2 nx2 2).1) ∧ Hid (Below w5.heap.size w5 w')) := by
    intro a n c W u hM
    refine (begin_any D _ ts2 sq2 nx2 2 a n c W (S5.out.up u) hM (by have := good_len HGD.out; omega) (HE.out.up (up_trans U0.out (up_trans u5.out u)))).mono ?_
    rintro e w' ⟨a', n', c', rfl, hO, hb⟩
    exact ⟨a', n', c', rfl, hO.out.acts HOk.out, up_trans u hb.out⟩
  generalize begP D ts2 sq2 nx2 2 = RB at *
  go_wp2_with fail
  refine (num_any _ _).mono ?_
  rintro e w6 ⟨rfl, hw6⟩
  have hw6 := hw6.symm
  subst hw6
  go_upto_region 7 with fail
  obtain ⟨⟨x0, x1, x2, x3, x4⟩, y0, y1, y2⟩ := HCF.out w5 (Below.refl _ _)
  go_cut [12, 13] from 20 (fun vA vB wx => ∃ a' n' c', vA = .slice a' n' c' ∧ vB = .int .i64 RB.2 ∧ Hid (ActsW wx (.slice a' n' c') RB.1) ∧ Hid (Below w5.heap.size w5 wx))
  case first =>
    go_region_held3 (fun w' => w'.cell? ⟨N9, 0, none⟩ = some (.int .i64 D.cap) ∧ w'.cell? ⟨N9, 1, none⟩ = some (.slice bf mf df) ∧ w'.cell? ⟨N9, 2, none⟩ = some (.slice bn mn dn) ∧ w'.cell? ⟨N9, 3, none⟩ = some (.slice bs ms ds) ∧ w'.cell? ⟨N9, 4, none⟩ = some (.int .i64 D.next) ∧ w'.cell? ⟨N1, 0, none⟩ = some (.slice ua un uc) ∧ w'.cell? ⟨N1, 1, none⟩ = some (.int .i64 sq2) ∧ w'.cell? ⟨N1, 2, none⟩ = some (.int .i64 nx2)) (first | with_reducible exact ⟨x0, x1, x2, x3, x4, y0, y1, y2⟩ | (with_reducible refine (fun h => ⟨h.1.1, h.1.2.1, h.1.2.2.1, h.1.2.2.2.1, h.1.2.2.2.2, h.2⟩) (HCF.out _ ?_); (repeat (first | with_reducible exact M5u.out | with_reducible exact u6.out | with_reducible exact Below.refl _ _ | with_reducible refine up_dr ?_)); done)) (first
      | (go_at_call 8; with_reducible refine (C8.out _ (up_dr (Below.refl _ _))).mono ?_; rintro e w5a ⟨a5, n5, c5, rfl, M5, M5u⟩)
      | (go_at_call 10; with_reducible refine (C10.out _ _ _ _ M5u.out M5.out).mono ?_; rintro e w6 ⟨a6, n6, c6, rfl, R6, u6⟩))
    go_wp2_with fail
    go_meet
    case rel => exact ⟨a6, n6, c6, rfl, rfl, R6, u6⟩
  case rest =>
  obtain ⟨a6, n6, c6, rfl, rfl, R6, u6⟩ := hcut
  have U6 : Hid (Below w.heap.size w wc) := up_trans U0.out (up_trans u5.out u6.out)
  clear C8 C10 x0 x1 x2 x3 x4 y0 y1 y2 HOk
  by_cases c2 : errV ts2 sq2 nx2 = 0
  case neg =>
    have HR : RB.2 = 9 := by rw [HBd.out, if_neg c2]
    have c2b : (errV ts2 sq2 nx2 != 0) = true := by simpa using c2
    obtain ⟨-, y0, y1, y2⟩ := HCF.out wc u6.out
    rw [HR]
    go_wp2_with fail
    refine (num_any _ _).mono ?_
    rintro e w7 ⟨rfl, hw7⟩
    have hw7 := hw7.symm
    subst hw7
    go_wp2_with fail
    refine (refCheck_anyE ts2 sq2 nx2 ua un uc wc (HM2.out.up U6.out)).mono ?_
    rintro e w8 ⟨rfl, b8⟩
    go_wp2_with fail
    go_ret
    exact ⟨rfl, up_trans U6.out b8.out⟩
  have HR : Hid (RB = (begA [109, 50] (edF sq2 nx2 [] ts2) (ptrF 2), 0)) := by rw [HBd.out, if_pos c2]; exact hid rfl
  have HR2 : RB.2 = 0 := by rw [HR.out]
  have HSw := hid (HSw.out c2)
  have HSn := hid (HSn.out c2)
  have HR1 : Hid (RB.1 = begA [109, 50] (edF sq2 nx2 [] ts2) (ptrF 2)) := by rw [HR.out]; exact hid rfl
  rw [HR2]
  clear HR HR2 HBd
  rw [← HR1.out] at HSw HSn
  have HLn : Hid (RB.1.length = 9) := by rw [HR1.out]; exact hid rfl
  generalize RB.1 = L at *
  have hn6 : n6 = L.length := by obtain ⟨la', lc', el, -, -⟩ := R6.out.len; injection el
  rw [HLn.out] at hn6
  subst hn6
  have CC : Hid (∀ (y : Int) W, In64 y → Below wc.heap.size wc W → Calls Tryz.prog 27 #[.agg #[.int .i64 D.cap, .slice bf mf df, .slice bn mn dn, .slice bs ms ds, .int .i64 D.next], .slice a6 9 c6, .int .i64 y, .slice ka kn kc] W fun e w' => ∃ v', e = .returned v' ∧ Hid (StW w' v' (crashP (runP D (L.take (cutN 9 y))).1 keep).1) ∧ Hid (Below wc.heap.size wc w')) := by
    intro y W hy u
    refine (cut_anyL D _ L y keep a6 9 c6 ka kn kc W HGD.out (S5.out.up (up_trans u6.out u)) (R6.out.up u) (by rw [HLn.out]; omega) hy (HK.out.up (up_trans U6.out u))).mono ?_
    rintro e w' ⟨v', rfl, hS, hb⟩
    rw [HLn.out] at hS
    exact ⟨v', rfl, hS, up_trans u hb.out⟩
  have CL : Hid (∀ (y : Int) W v', StW W v' (crashP (runP D (L.take (cutN 9 y))).1 keep).1 → Below wc.heap.size wc W → Calls Tryz.prog 19 #[v'] W (LoadE W (loadP (crashP (runP D (L.take (cutN 9 y))).1 keep).1))) := by
    intro y W v' hS u
    exact load_any _ v' W hS (cut_names HGD.out _ _) ((HE.out.up (up_trans U6.out u)).1)
  have HA : Hid (∀ y, loadP (crashP (runP D (L.take (cutN 9 y))).1 keep).1 = ((ts, sq, nx), 1, 0) ∨ loadP (crashP (runP D (L.take (cutN 9 y))).1 keep).1 = ((ts2, sq2, nx2), 2, 0)) := fun y => HSw.out _ (by
    obtain ⟨r1, r2, -, -, -, -, -, -, -, h⟩ := cutN_facts 9 (by omega) y
    exact h)
  have HN : Hid (loadP (crashP (runP D (L.take (cutN 9 9))).1 keep).1 = ((ts2, sq2, nx2), 2, 0)) := by
    have e9 : L.take (cutN 9 9) = L := by rw [show cutN 9 9 = 9 from cutN_all 9]; exact List.take_of_length_le (by rw [HLn.out]; omega)
    rw [e9]
    exact HSn
  clear HSw HSn
  obtain ⟨⟨x0, x1, x2, x3, x4⟩, -⟩ := HCF.out wc u6.out
  go_wp2_with fail
  refine (num_any _ _).mono ?_
  rintro e w7 ⟨rfl, hw7⟩
  have hw7 := hw7.symm
  subst hw7
  go_wp2_with fail
  refine (CC.out x wc HX.out (Below.refl _ _)).mono ?_
  rintro e w8 ⟨v8, rfl, S8, u8⟩
  go_wp2_with fail
  refine (CL.out x w8 v8 S8.out u8.out).mono ?_
  rintro e w9 ⟨a9, n9, c9, s9, q9, rfl, V9, b9⟩
  have u9 : Hid (Below wc.heap.size wc w9) := up_trans u8.out b9.out
  obtain ⟨w10, hw10⟩ : ∃ w10, w10 = w9.alloc (.cells #[.slice a9 n9 c9, .int .i64 s9, .int .i64 q9] 39) := ⟨_, rfl⟩
  have HW10 : Hid (w9.alloc (.cells #[.slice a9 n9 c9, .int .i64 s9, .int .i64 q9] 39) = w10) := hid hw10.symm
  have V10 : Hid (Below w9.heap.size w9 w10) := by rw [hw10]; exact up_alloc _ _
  have u10 : Hid (Below wc.heap.size wc w10) := up_trans u9.out V10.out
  have B10 : Hid (w10.heap[w9.heap.size]? = some (.cells #[.slice a9 n9 c9, .int .i64 s9, .int .i64 q9] 39)) := by rw [hw10]; exact blk_new _ _
  clear hw10 x0 x1 x2 x3 x4
  go_upto_region 11 with fail
  rw [HW10.out]
  clear HW10
  have hor := HA.out x
  generalize loadP (crashP (runP D (L.take (cutN 9 x))).1 keep).1 = r at *
  obtain ⟨M9, e1, e2⟩ := V9.out r.1 rfl
  have M9 : MetsR w9 (.slice a9 n9 c9) r.1.1 := Rws.own M9
  have M10 := hid (M9.up V10.out)
  clear V9 M9
  generalize hN14 : w9.heap.size = N14 at *
  clear hN14
  obtain ⟨⟨x0, x1, x2⟩, y0, y1, y2⟩ := HCE.out w10 (up_trans u5.out (up_trans u6.out u10.out))
  have t0 := blk_cell B10.out 0 _ rfl
  have t1 := blk_cell B10.out 1 _ rfl
  have t2 := blk_cell B10.out 2 _ rfl
  rcases hor with rfl | rfl
  · simp only at e1 e2
    subst e1 e2
    go_wp2_with fail
    refine (num_any _ _).mono ?_
    rintro e w11 ⟨rfl, hw11⟩
    have hw11 := hw11.symm
    subst hw11
    go_wp2_with fail
    refine (alike_self ts s9 q9 a9 va n9 c9 vn vc w10 M10.out (HM.out.up (up_trans U6.out u10.out))).mono ?_
    rintro e w12 ⟨rfl, b12⟩
    have u12 : Hid (Below wc.heap.size wc w12) := up_trans u10.out b12.out
    clear x0 x1 x2 y0 y1 y2 t0 t1 t2 B10 M10
    obtain ⟨⟨z0, z1, z2, z3, z4⟩, -⟩ := HCF.out w12 (up_trans u6.out u12.out)
    go_wp2_with fail
    refine (CC.out 9 w12 (by unfold In64; omega) u12.out).mono ?_
    rintro e w13 ⟨v13, rfl, S13, u13⟩
    go_wp2_with fail
    refine (CL.out 9 w13 v13 S13.out u13.out).mono ?_
    rintro e w14 ⟨a14, n14, c14, s14, q14, rfl, V14, b14⟩
    rw [HN.out] at V14 ⊢
    have u14 : Hid (Below wc.heap.size wc w14) := up_trans u13.out b14.out
    obtain ⟨w15, hw15⟩ : ∃ w15, w15 = w14.alloc (.cells #[.slice a14 n14 c14, .int .i64 s14, .int .i64 q14] 39) := ⟨_, rfl⟩
    have HW15 : Hid (w14.alloc (.cells #[.slice a14 n14 c14, .int .i64 s14, .int .i64 q14] 39) = w15) := hid hw15.symm
    have V15 : Hid (Below w14.heap.size w14 w15) := by rw [hw15]; exact up_alloc _ _
    have u15 : Hid (Below wc.heap.size wc w15) := up_trans u14.out V15.out
    have B15 : Hid (w15.heap[w14.heap.size]? = some (.cells #[.slice a14 n14 c14, .int .i64 s14, .int .i64 q14] 39)) := by rw [hw15]; exact blk_new _ _
    clear hw15 z0 z1 z2 z3 z4
    go_upto_region 14 with fail
    rw [HW15.out]
    clear HW15
    obtain ⟨M14, e3, e4⟩ := V14.out (ts2, sq2, nx2) rfl
    have M14 : MetsR w14 (.slice a14 n14 c14) ts2 := Rws.own M14
    have M15 := hid (M14.up V15.out)
    simp only at e3 e4
    clear V14 M14
    generalize hN17 : w14.heap.size = N17 at *
    clear hN17
    obtain ⟨-, y0, y1, y2⟩ := HCF.out w15 (up_trans u6.out u15.out)
    have t0 := blk_cell B15.out 0 _ rfl
    have t1 := blk_cell B15.out 1 _ rfl
    have t2 := blk_cell B15.out 2 _ rfl
    subst e3 e4
    go_wp2_with fail
    refine (num_any _ _).mono ?_
    rintro e w16 ⟨rfl, hw16⟩
    have hw16 := hw16.symm
    subst hw16
    go_wp2_with fail
    refine (alike_self ts2 _ _ a14 ua n14 c14 un uc w15 M15.out (HM2.out.up (up_trans U6.out u15.out))).mono ?_
    rintro e w17 ⟨rfl, b17⟩
    go_wp2_with fail
    go_ret
    exact ⟨rfl, up_trans U6.out (up_trans u15.out b17.out)⟩
  · simp only at e1 e2
    subst e1 e2
    go_wp2_with fail
    refine (num_any _ _).mono ?_
    rintro e w11 ⟨rfl, hw11⟩
    have hw11 := hw11.symm
    subst hw11
    go_wp2_with fail
    refine (alike_self ts2 s9 q9 a9 ua n9 c9 un uc w10 M10.out (HM2.out.up (up_trans U6.out u10.out))).mono ?_
    rintro e w12 ⟨rfl, b12⟩
    have u12 : Hid (Below wc.heap.size wc w12) := up_trans u10.out b12.out
    clear x0 x1 x2 y0 y1 y2 t0 t1 t2 B10 M10
    obtain ⟨⟨z0, z1, z2, z3, z4⟩, -⟩ := HCF.out w12 (up_trans u6.out u12.out)
    go_wp2_with fail
    refine (CC.out 9 w12 (by unfold In64; omega) u12.out).mono ?_
    rintro e w13 ⟨v13, rfl, S13, u13⟩
    go_wp2_with fail
    refine (CL.out 9 w13 v13 S13.out u13.out).mono ?_
    rintro e w14 ⟨a14, n14, c14, s14, q14, rfl, V14, b14⟩
    rw [HN.out] at V14 ⊢
    have u14 : Hid (Below wc.heap.size wc w14) := up_trans u13.out b14.out
    obtain ⟨w15, hw15⟩ : ∃ w15, w15 = w14.alloc (.cells #[.slice a14 n14 c14, .int .i64 s14, .int .i64 q14] 39) := ⟨_, rfl⟩
    have HW15 : Hid (w14.alloc (.cells #[.slice a14 n14 c14, .int .i64 s14, .int .i64 q14] 39) = w15) := hid hw15.symm
    have V15 : Hid (Below w14.heap.size w14 w15) := by rw [hw15]; exact up_alloc _ _
    have u15 : Hid (Below wc.heap.size wc w15) := up_trans u14.out V15.out
    have B15 : Hid (w15.heap[w14.heap.size]? = some (.cells #[.slice a14 n14 c14, .int .i64 s14, .int .i64 q14] 39)) := by rw [hw15]; exact blk_new _ _
    clear hw15 z0 z1 z2 z3 z4
    go_upto_region 14 with fail
    rw [HW15.out]
    clear HW15
    obtain ⟨M14, e3, e4⟩ := V14.out (ts2, s9, q9) rfl
    have M14 : MetsR w14 (.slice a14 n14 c14) ts2 := Rws.own M14
    have M15 := hid (M14.up V15.out)
    simp only at e3 e4
    clear V14 M14
    generalize hN17 : w14.heap.size = N17 at *
    clear hN17
    obtain ⟨-, y0, y1, y2⟩ := HCF.out w15 (up_trans u6.out u15.out)
    have t0 := blk_cell B15.out 0 _ rfl
    have t1 := blk_cell B15.out 1 _ rfl
    have t2 := blk_cell B15.out 2 _ rfl
    subst e3 e4
    go_wp2_with fail
    refine (num_any _ _).mono ?_
    rintro e w16 ⟨rfl, hw16⟩
    have hw16 := hw16.symm
    subst hw16
    go_wp2_with fail
    refine (alike_self ts2 _ _ a14 ua n14 c14 un uc w15 M15.out (HM2.out.up (up_trans U6.out u15.out))).mono ?_
    rintro e w17 ⟨rfl, b17⟩
    go_wp2_with fail
    go_ret
    exact ⟨rfl, up_trans U6.out (up_trans u15.out b17.out)⟩
end Go.Proofs.YtnchjlimkgbfpaaGreatDoor

/- Numbers among the arguments. -/
namespace Go.Proofs.YtnchjlimkgbfpaaGreatDoor
open Go.RowKit Go.WideShapes
set_option maxRecDepth 100000 in
theorem arg_numsX {H : Type} {enc : TypeId × Value → H} {W : World} {base : Nat} {v : Value} {d : DataW H} {p : List MemPlace} (hv : Value.okWide Tryz.prog W .any base 29 v) (h : DataW.Trod enc Tryz.prog W 0 (fun _ => true) true 29 v d p) :
    ∃ (a : Option Addr) (n c : Nat) (l : List Int), v = .slice a n c ∧ IntsW W (.slice a n c) l := by
  obtain ⟨a, n, c, rfl⟩ := okWide_slice Tryz.underlying29 hv
  obtain ⟨l, hl⟩ := arg_ints h
  exact ⟨a, n, c, l, rfl, hl⟩
end Go.Proofs.YtnchjlimkgbfpaaGreatDoor
