
import Derived.Test.YtnchjlimkgbfpaaGreatDoorJ39
import Derived.Test.YtnchjlimkgbfpaaGreatDoorOLoad
import Derived.Test.YtnchjlimkgbfpaaGreatDoorJ38
import Derived.Test.YtnchjlimkgbfpaaGreatDoorJ37
import Derived.Test.YtnchjlimkgbfpaaGreatDoorRChk
import Derived.Test.YtnchjlimkgbfpaaGreatDoorRApp
namespace Go.Proofs.YtnchjlimkgbfpaaGreatDoor
open Go.RowKit
set_option linter.unusedVariables false
set_option linter.unusedSimpArgs false
set_option maxRecDepth 20000
set_option maxHeartbeats 8000000 in
theorem notes_walk (ts : List Me) (dr : List Int) (ad : List Me) (sq nx sq2 nx2 x : Int) (va da aa ka : Option Addr) (vn vc en dc an' ac kn kc : Nat) (keep : List Int) (w : World) (hm : MetsR w (.slice va vn vc) ts) (htl : ts.length ≤ 4000000000000) (hd : IntsR w (.slice da en dc) dr) (hdl : dr.length ≤ 17592186044416) (ha : MetsR w (.slice aa an' ac) ad) (hal : ad.length ≤ 4000000000000) (hx : In64 x) (hk : IntsW w (.slice ka kn kc) keep) (he : EnvL w) :
    Calls Tryz.prog 6 #[.agg #[.slice va vn vc, .int .i64 sq, .int .i64 nx], .agg #[.slice da en dc, .slice aa an' ac, .int .i64 sq2, .int .i64 nx2], .int .i64 x, .slice ka kn kc] w fun e w' => e = .returned (.bool true) ∧ Hid (Below w.heap.size w w') := by
  have HM : Hid (MetsR w (.slice va vn vc) ts) := hm
  have HDr : Hid (IntsR w (.slice da en dc) dr) := hd
  have HAd : Hid (MetsR w (.slice aa an' ac) ad) := ha
  have HE : Hid (EnvL w) := he
  have HK : Hid (IntsW w (.slice ka kn kc) keep) := hk
  have HX : Hid (In64 x) := hx
  have HD := hid (begun_d7 ts sq nx)
  obtain ⟨w0, hw0⟩ : ∃ w0, w0 = (w.alloc (.cells #[.slice va vn vc, .int .i64 sq, .int .i64 nx] 28)).alloc (.cells #[.slice da en dc, .slice aa an' ac, .int .i64 sq2, .int .i64 nx2] 31) := ⟨_, rfl⟩
  have HW0 : Hid ((w.alloc (.cells #[.slice va vn vc, .int .i64 sq, .int .i64 nx] 28)).alloc (.cells #[.slice da en dc, .slice aa an' ac, .int .i64 sq2, .int .i64 nx2] 31) = w0) := hid hw0.symm
  have U0 : Hid (Below w.heap.size w w0) := by rw [hw0]; exact up_al (up_alloc _ _) _
  have sz1 : ∀ (W : World) (o : Obj), (W.alloc o).heap.size = W.heap.size + 1 := fun W o => by simp
  have B0 : Hid (w0.heap[w.heap.size]? = some (.cells #[.slice va vn vc, .int .i64 sq, .int .i64 nx] 28)) := by rw [hw0]; exact blk_up (blk_new _ _) (up_alloc _ _)
  have B1 : Hid (w0.heap[w.heap.size + 1]? = some (.cells #[.slice da en dc, .slice aa an' ac, .int .i64 sq2, .int .i64 nx2] 31)) := by
    rw [hw0, ← sz1 w (.cells #[.slice va vn vc, .int .i64 sq, .int .i64 nx] 28)]
    exact blk_new _ _
  clear hw0 hm hd ha he hk hx sz1
  go_enter Tryz.func6, Tryz.ntmps6
  go_upto_region 1 with fail
  rw [HW0.out]
  clear HW0
  generalize hN1 : w.heap.size + 1 = N1 at *
  clear hN1
  have HCE : Hid (∀ W, Below w0.heap.size w0 W → (W.cell? ⟨w.heap.size, 0, none⟩ = some (.slice va vn vc) ∧ W.cell? ⟨w.heap.size, 1, none⟩ = some (.int .i64 sq) ∧ W.cell? ⟨w.heap.size, 2, none⟩ = some (.int .i64 nx)) ∧ W.cell? ⟨N1, 0, none⟩ = some (.slice da en dc) ∧ W.cell? ⟨N1, 1, none⟩ = some (.slice aa an' ac) ∧ W.cell? ⟨N1, 2, none⟩ = some (.int .i64 sq2) ∧ W.cell? ⟨N1, 3, none⟩ = some (.int .i64 nx2)) := fun W h => ⟨⟨blk_cell (blk_up B0.out h) 0 _ rfl, blk_cell (blk_up B0.out h) 1 _ rfl, blk_cell (blk_up B0.out h) 2 _ rfl⟩, blk_cell (blk_up B1.out h) 0 _ rfl, blk_cell (blk_up B1.out h) 1 _ rfl, blk_cell (blk_up B1.out h) 2 _ rfl, blk_cell (blk_up B1.out h) 3 _ rfl⟩
  clear B0 B1
  go_wp2_with fail
  refine (alive_any w0 (HE.out.up U0.out)).mono ?_
  rintro e w1 ⟨rfl, u1⟩
  have u1 := hid u1
  go_wp2_with fail
  refine (new_any 1048576 (by unfold In64; omega) w1).mono ?_
  rintro e w2 ⟨v2, rfl, o2, u2⟩
  rw [new_d0] at o2
  obtain ⟨af, nf, cf, an, nn, cn, as', ns, cs', ev2⟩ := o2.shape
  subst ev2
  have S2 := hid (StW.own o2)
  have u2 := hid (up_trans u1.out u2)
  clear o2
  obtain ⟨w3, hw3⟩ : ∃ w3, w3 = w2.alloc (.cells #[.int .i64 d0.cap, .slice af nf cf, .slice an nn cn, .slice as' ns cs', .int .i64 d0.next] 35) := ⟨_, rfl⟩
  have HW3 : Hid (w2.alloc (.cells #[.int .i64 d0.cap, .slice af nf cf, .slice an nn cn, .slice as' ns cs', .int .i64 d0.next] 35) = w3) := hid hw3.symm
  have V3 : Hid (Below w2.heap.size w2 w3) := by rw [hw3]; exact up_alloc _ _
  have u3 : Hid (Below w0.heap.size w0 w3) := up_trans u2.out V3.out
  have B3 : Hid (w3.heap[w2.heap.size]? = some (.cells #[.int .i64 d0.cap, .slice af nf cf, .slice an nn cn, .slice as' ns cs', .int .i64 d0.next] 35)) := by rw [hw3]; exact blk_new _ _
  have S3 := hid (S2.out.up V3.out)
  have HN9 : Hid (w0.heap.size ≤ w2.heap.size) := u2.out.size
  clear hw3 S2
  rw [new_d0]
  go_upto_region 4 with fail
  rw [HW3.out]
  clear HW3
  generalize hN9 : w2.heap.size = N9 at *
  clear hN9
  obtain ⟨⟨x0, x1, x2⟩, -⟩ := HCE.out w3 u3.out
  have z0 := blk_cell B3.out 0 _ rfl
  have z1 := blk_cell B3.out 1 _ rfl
  have z2 := blk_cell B3.out 2 _ rfl
  have z3 := blk_cell B3.out 3 _ rfl
  have z4 := blk_cell B3.out 4 _ rfl
  go_wp2_with fail
  refine (begun_any d0 _ ts sq nx 7 va vn vc w3 good_d0 S3.out (HM.out.up (up_trans U0.out u3.out)) htl (HE.out.up (up_trans U0.out u3.out))).mono ?_
  rintro e w4 ⟨v4, rfl, S4, b4, O4⟩
  generalize begunP d0 ts sq nx 7 = R at *
  obtain ⟨bf, mf, df, bn, mn, dn, bs, ms, ds, ev4⟩ := S4.out.shape
  subst ev4
  have u4 : Hid (Below w0.heap.size w0 w4) := up_trans u3.out b4.out
  have B4 : Hid (w4.heap[N9]? = some (.cells #[.int .i64 d0.cap, .slice af nf cf, .slice an nn cn, .slice as' ns cs', .int .i64 d0.next] 35)) := blk_up B3.out b4.out
  obtain ⟨w5, hw5⟩ : ∃ w5, w5 = ((((w4.setCell ⟨N9, 0, none⟩ (.int .i64 R.1.cap)).setCell ⟨N9, 1, none⟩ (.slice bf mf df)).setCell ⟨N9, 2, none⟩ (.slice bn mn dn)).setCell ⟨N9, 3, none⟩ (.slice bs ms ds)).setCell ⟨N9, 4, none⟩ (.int .i64 R.1.next) := ⟨_, rfl⟩
  have HW5 : Hid (((((w4.setCell ⟨N9, 0, none⟩ (.int .i64 R.1.cap)).setCell ⟨N9, 1, none⟩ (.slice bf mf df)).setCell ⟨N9, 2, none⟩ (.slice bn mn dn)).setCell ⟨N9, 3, none⟩ (.slice bs ms ds)).setCell ⟨N9, 4, none⟩ (.int .i64 R.1.next) = w5) := hid hw5.symm
  have u5 : Hid (Below w0.heap.size w0 w5) := by rw [hw5]; exact up_set5 u4.out HN9.out
  have B5 : Hid (w5.heap[N9]? = some (.cells #[.int .i64 R.1.cap, .slice bf mf df, .slice bn mn dn, .slice bs ms ds, .int .i64 R.1.next] 35)) := by rw [hw5]; exact set5_blkS B4.out _ _ _ _ _
  have S5 : Hid (R.2 = true → StW w5 (.agg #[.int .i64 R.1.cap, .slice bf mf df, .slice bn mn dn, .slice bs ms ds, .int .i64 R.1.next]) R.1) := by rw [hw5]; exact fun h => StW.own (OwnV.put (O4.out h) B4.out).2
  have f0 := blk_frozen B4.out 0
  have f1 := blk_frozen B4.out 1
  have f2 := blk_frozen B4.out 2
  have f3 := blk_frozen B4.out 3
  have f4 := blk_frozen B4.out 4
  have z0 := blk_cell B4.out 0 _ rfl
  have z1 := blk_cell B4.out 1 _ rfl
  have z2 := blk_cell B4.out 2 _ rfl
  have z3 := blk_cell B4.out 3 _ rfl
  have z4 := blk_cell B4.out 4 _ rfl
  clear hw5
  go_upto_region 5 with fail
  rw [HW5.out]
  clear HW5 f0 f1 f2 f3 f4 z0 z1 z2 z3 z4 x0 x1 x2 B3 B4 S3 S4 O4
  obtain ⟨⟨x0, x1, x2⟩, y0, y1, y2, y3⟩ := HCE.out w5 u5.out
  have HAk := hid (@app_ok ts sq nx dr ad sq2 nx2)
  have HNl := hid (fun h => @note_load ts sq nx sq2 nx2 dr ad h keep)
  have HLe := hid (@note_len ts sq nx dr ad sq2 nx2)
  go_wp2_with fail
  refine (refApply_any ts sq nx dr ad sq2 nx2 va da aa vn vc en dc an' ac w5 (HM.out.up (up_trans U0.out u5.out)) (HDr.out.up (up_trans U0.out u5.out)) (HAd.out.up (up_trans U0.out u5.out))).mono ?_
  rintro e w6 ⟨a6, l6, c6, rfl, O6, b6⟩
  have O6 := hid O6
  have b6 := hid b6
  generalize appM ts sq nx dr ad sq2 nx2 = r at *
  obtain ⟨s6, hs6⟩ : ∃ s6, s6 = (if r.2 = 0 then sq2 else 0) := ⟨_, rfl⟩
  obtain ⟨q6, hq6⟩ : ∃ q6, q6 = (if r.2 = 0 then nx2 else 0) := ⟨_, rfl⟩
  rw [← hs6, ← hq6]
  have Hs6 := hid hs6
  have Hq6 := hid hq6
  clear hs6 hq6
  obtain ⟨w7, hw7⟩ : ∃ w7, w7 = w6.alloc (.cells #[.slice a6 l6 c6, .int .i64 s6, .int .i64 q6] 28) := ⟨_, rfl⟩
  have HW7 : Hid (w6.alloc (.cells #[.slice a6 l6 c6, .int .i64 s6, .int .i64 q6] 28) = w7) := hid hw7.symm
  have V7 : Hid (Below w6.heap.size w6 w7) := by rw [hw7]; exact up_alloc _ _
  have v7 : Hid (Below w5.heap.size w5 w7) := up_trans b6.out V7.out
  have u7 : Hid (Below w0.heap.size w0 w7) := up_trans u5.out v7.out
  have B7 : Hid (w7.heap[w6.heap.size]? = some (.cells #[.slice a6 l6 c6, .int .i64 s6, .int .i64 q6] 28)) := by rw [hw7]; exact blk_new _ _
  have M6 : MetsR w6 (.slice a6 l6 c6) r.1 := Rws.own O6.out
  have M7 := hid (M6.up V7.out)
  clear hw7 x0 x1 x2 y0 y1 y2 y3 M6 O6
  go_upto_region 6 with fail
  rw [HW7.out]
  clear HW7
  generalize hN12 : w6.heap.size = N12 at *
  clear hN12
  by_cases c0 : errV ts sq nx = 0
  case neg =>
    have HR : Hid (R = (d0, false)) := by rw [HD.out, if_neg c0]; exact hid rfl
    have c0b : (errV ts sq nx != 0) = true := by simpa using c0
    obtain ⟨⟨x0, x1, x2⟩, -⟩ := HCE.out w7 u7.out
    rw [show R.2 = false by rw [HR.out]]
    go_wp2_with fail
    refine (num_any _ _).mono ?_
    rintro e w8 ⟨rfl, hw8⟩
    have hw8 := hw8.symm
    subst hw8
    go_wp2_with fail
    refine (num_any _ _).mono ?_
    rintro e w8 ⟨rfl, hw8⟩
    have hw8 := hw8.symm
    subst hw8
    go_wp2_with fail
    refine (refCheck_anyE ts sq nx va vn vc w7 (HM.out.up (up_trans U0.out u7.out))).mono ?_
    rintro e w9 ⟨rfl, b9⟩
    go_wp2_with fail
    go_ret
    exact ⟨rfl, up_trans U0.out (up_trans u7.out b9.out)⟩
  have HR1 : Hid (R.1 = d1 [109, 55] (edF sq nx [] ts) (ptrF 7)) := by rw [HD.out, if_pos c0]; exact hid rfl
  have HR2 : R.2 = true := by rw [HD.out, if_pos c0]
  have S5 := hid (S5.out HR2)
  rw [HR2]
  clear HR2 HD
  by_cases ca : r.2 = 0
  case neg =>
    have cab : (r.2 != 0) = true := by simpa using ca
    clear HR1 S5 B5
    go_wp2_with fail
    refine (num_any _ _).mono ?_
    rintro e w8 ⟨rfl, hw8⟩
    have hw8 := hw8.symm
    subst hw8
    go_wp2_with fail
    refine (num_any _ _).mono ?_
    rintro e w8 ⟨rfl, hw8⟩
    have hw8 := hw8.symm
    subst hw8
    go_wp2_with fail
    go_ret
    exact ⟨rfl, up_trans U0.out u7.out⟩
  obtain rfl : s6 = sq2 := by rw [Hs6.out, if_pos ca]
  obtain rfl : q6 = nx2 := by rw [Hq6.out, if_pos ca]
  have HAk := hid (HAk.out ca)
  have HLe := hid (HLe.out ca)
  have HNl := hid (HNl.out ca)
  rw [ca]
  clear Hs6 Hq6
  generalize R.1 = D at *
  have HGD : Hid (Good D) := by rw [HR1.out]; exact good_m7 c0
  rw [← HR1.out] at HNl
  clear HR1
  go_wp2_with fail
  refine (num_any _ _).mono ?_
  rintro e w8 ⟨rfl, hw8⟩
  have hw8 := hw8.symm
  subst hw8
  obtain ⟨-, y0, y1, y2, y3⟩ := HCE.out w7 u7.out
  go_wp2_with fail
  have HND := hid (note_any s6 q6 dr ad)
  refine (ofEdit_any dr ad s6 q6 da aa en dc an' ac w7 (HDr.out.up (up_trans U0.out u7.out)) (HAd.out.up (up_trans U0.out u7.out)) hdl hal).mono ?_
  rintro e w8 ⟨a8, n8, c8, d8, m8, k8, rfl, OD8, OA8, b8⟩
  have D8 : IntsR w8 (.slice a8 n8 c8) dr := Rws.own OD8.out
  have A8 : MetsR w8 (.slice d8 m8 k8) ad := OA8.out.read
  have u8 : Hid (Below w0.heap.size w0 w8) := up_trans u7.out b8.out
  clear y0 y1 y2 y3
  go_wp2_with fail
  refine (HND.out a8 d8 n8 c8 m8 k8 w8 D8 A8 HAk.out.2.2.1 HLe.out (HE.out.up (up_trans U0.out u8.out))).mono ?_
  rintro e w9 ⟨a9, c9, rfl, L9, b9⟩
  clear HND D8 A8 OD8 OA8
  have v9 : Hid (Below w7.heap.size w7 w9) := up_trans b8.out b9.out
  have u9 : Hid (Below w0.heap.size w0 w9) := up_trans u8.out b9.out
  have U9 : Hid (Below w.heap.size w w9) := up_trans U0.out u9.out
  have HLn : Hid ((noteA [109, 55] (edF s6 q6 dr ad)).length = 2) := hid rfl
  generalize noteA [109, 55] (edF s6 q6 dr ad) = L at *
  have S9 := hid (S5.out.up (up_trans v7.out v9.out))
  have HCG : Hid (∀ W, Below w9.heap.size w9 W → (W.cell? ⟨N9, 0, none⟩ = some (.int .i64 D.cap) ∧ W.cell? ⟨N9, 1, none⟩ = some (.slice bf mf df) ∧ W.cell? ⟨N9, 2, none⟩ = some (.slice bn mn dn) ∧ W.cell? ⟨N9, 3, none⟩ = some (.slice bs ms ds) ∧ W.cell? ⟨N9, 4, none⟩ = some (.int .i64 D.next))) := fun W h => have g := blk_up B5.out (up_trans v7.out (up_trans v9.out h)); ⟨blk_cell g 0 _ rfl, blk_cell g 1 _ rfl, blk_cell g 2 _ rfl, blk_cell g 3 _ rfl, blk_cell g 4 _ rfl⟩
  have CC : Hid (∀ (y : Int) W, In64 y → Below w9.heap.size w9 W → Calls Tryz.prog 27 #[.agg #[.int .i64 D.cap, .slice bf mf df, .slice bn mn dn, .slice bs ms ds, .int .i64 D.next], .slice a9 2 c9, .int .i64 y, .slice ka kn kc] W fun e w' => ∃ v', e = .returned v' ∧ Hid (StW w' v' (crashP (runP D (L.take (cutN 2 y))).1 keep).1) ∧ Hid (Below w9.heap.size w9 w') ∧ Hid (Below W.heap.size W w')) := by
    intro y W hy u
    refine (cut_anyL D _ L y keep a9 2 c9 ka kn kc W HGD.out (S9.out.up u) (L9.out.up u) (by rw [HLn.out]; omega) hy (HK.out.up (up_trans U9.out u))).mono ?_
    rintro e w' ⟨v', rfl, hS, hb⟩
    rw [HLn.out] at hS
    exact ⟨v', rfl, hS, up_trans u hb.out, hb⟩
  have CL : Hid (∀ (y : Int) W v', StW W v' (crashP (runP D (L.take (cutN 2 y))).1 keep).1 → Below w9.heap.size w9 W → Calls Tryz.prog 19 #[v'] W (LoadE W (loadP (crashP (runP D (L.take (cutN 2 y))).1 keep).1))) := by
    intro y W v' hS u
    exact load_any _ v' W hS (cut_names HGD.out _ _) ((HE.out.up (up_trans U9.out u)).1)
  have HA : Hid (loadP (crashP (runP D (L.take (cutN 2 x))).1 keep).1 = ((ts, sq, nx), 7, 0) ∨ loadP (crashP (runP D (L.take (cutN 2 x))).1 keep).1 = ((r.1, s6, q6), 7, 0)) := (HNl.out _ (by
    obtain ⟨r1, r2, -, -, -, -, -, -, -, h⟩ := cutN_facts 2 (by omega) x
    exact h)).1
  have HN : Hid (loadP (crashP (runP D (L.take (cutN 2 2))).1 keep).1 = ((r.1, s6, q6), 7, 0)) := (HNl.out (cutN 2 2) (by rw [show cutN 2 2 = 2 from cutN_all 2]; omega)).2 (cutN_all 2)
  clear HNl HAk HLe S9 S5 L9
  obtain ⟨x0, x1, x2, x3, x4⟩ := HCG.out w9 (Below.refl _ _)
  go_wp2_with fail
  refine (num_any _ _).mono ?_
  rintro e wN ⟨rfl, hwN⟩
  have hwN := hwN.symm
  subst hwN
  go_wp2_with fail
  refine (CC.out x w9 HX.out (Below.refl _ _)).mono ?_
  rintro e w10 ⟨v10, rfl, S10, u10, -⟩
  go_wp2_with fail
  refine (CL.out x w10 v10 S10.out u10.out).mono ?_
  rintro e w11 ⟨a11, n11, c11, s11, q11, rfl, V11, b11⟩
  have uw11 : Hid (Below w9.heap.size w9 w11) := up_trans u10.out b11.out
  clear x0 x1 x2 x3 x4 S10
  obtain ⟨w12, hw12⟩ : ∃ w12, w12 = w11.alloc (.cells #[.slice a11 n11 c11, .int .i64 s11, .int .i64 q11] 39) := ⟨_, rfl⟩
  have Hw12 : Hid (w11.alloc (.cells #[.slice a11 n11 c11, .int .i64 s11, .int .i64 q11] 39) = w12) := hid hw12.symm
  have Vw12 : Hid (Below w11.heap.size w11 w12) := by rw [hw12]; exact up_alloc _ _
  have uw12 : Hid (Below w9.heap.size w9 w12) := up_trans uw11.out Vw12.out
  have Bw12 : Hid (w12.heap[w11.heap.size]? = some (.cells #[.slice a11 n11 c11, .int .i64 s11, .int .i64 q11] 39)) := by rw [hw12]; exact blk_new _ _
  clear hw12
  go_upto_region 12 with fail
  rw [Hw12.out]
  clear Hw12
  have hor := HA.out
  generalize loadP (crashP (runP D (L.take (cutN 2 x))).1 keep).1 = p at *
  obtain ⟨M11, e1, e2⟩ := V11.out p.1 rfl
  have M11 : MetsR w11 (.slice a11 n11 c11) p.1.1 := Rws.own M11
  have M12 := hid (M11.up Vw12.out)
  clear V11 M11
  generalize hN16 : w11.heap.size = N16 at *
  clear hN16
  have hp2 : p.2.1 = 7 ∧ p.2.2 = 0 := by rcases hor with h | h <;> rw [h] <;> exact ⟨rfl, rfl⟩
  have Hor : Hid ((p.1.1 = ts ∧ s11 = sq ∧ q11 = nx) ∨ (p.1.1 = r.1 ∧ s11 = s6 ∧ q11 = q6)) := by
    rw [e1, e2]
    rcases hor with h | h
    · rw [h]; exact .inl ⟨rfl, rfl, rfl⟩
    · rw [h]; exact .inr ⟨rfl, rfl, rfl⟩
  obtain ⟨hp1, hp3⟩ := hp2
  rw [hp1, hp3]
  clear e1 e2 hor hp1 hp3 HA
  obtain ⟨x0, x1, x2, x3, x4⟩ := HCG.out w12 uw12.out
  go_wp2_with fail
  refine (CC.out 2 w12 (by unfold In64; omega) uw12.out).mono ?_
  rintro e w13 ⟨v13, rfl, S13, u13, t13⟩
  go_wp2_with fail
  refine (CL.out 2 w13 v13 S13.out u13.out).mono ?_
  rintro e w14 ⟨a14, n14, c14, s14, q14, rfl, V14, b14⟩
  rw [HN.out] at V14 ⊢
  have uw14 : Hid (Below w9.heap.size w9 w14) := up_trans u13.out b14.out
  clear x0 x1 x2 x3 x4 S13
  obtain ⟨w15, hw15⟩ : ∃ w15, w15 = w14.alloc (.cells #[.slice a14 n14 c14, .int .i64 s14, .int .i64 q14] 39) := ⟨_, rfl⟩
  have Hw15 : Hid (w14.alloc (.cells #[.slice a14 n14 c14, .int .i64 s14, .int .i64 q14] 39) = w15) := hid hw15.symm
  have Vw15 : Hid (Below w14.heap.size w14 w15) := by rw [hw15]; exact up_alloc _ _
  have uw15 : Hid (Below w9.heap.size w9 w15) := up_trans uw14.out Vw15.out
  have Bw15 : Hid (w15.heap[w14.heap.size]? = some (.cells #[.slice a14 n14 c14, .int .i64 s14, .int .i64 q14] 39)) := by rw [hw15]; exact blk_new _ _
  clear hw15
  go_upto_region 13 with fail
  rw [Hw15.out]
  clear Hw15
  obtain ⟨M14, e3, e4⟩ := V14.out (r.1, s6, q6) rfl
  have M14 : MetsR w14 (.slice a14 n14 c14) r.1 := Rws.own M14
  have M15 := hid (M14.up Vw15.out)
  simp only at e3 e4
  subst e3 e4
  have v15 : Hid (Below w12.heap.size w12 w15) := up_trans t13.out (up_trans b14.out Vw15.out)
  generalize hN19 : w14.heap.size = N19 at *
  clear hN19 V14 M14
  have HAL : Hid (∀ W, Below w15.heap.size w15 W → (W.cell? ⟨w.heap.size, 0, none⟩ = some (.slice va vn vc) ∧ W.cell? ⟨w.heap.size, 1, none⟩ = some (.int .i64 sq) ∧ W.cell? ⟨w.heap.size, 2, none⟩ = some (.int .i64 nx)) ∧ (W.cell? ⟨N16, 0, none⟩ = some (.slice a11 n11 c11) ∧ W.cell? ⟨N16, 1, none⟩ = some (.int .i64 s11) ∧ W.cell? ⟨N16, 2, none⟩ = some (.int .i64 q11)) ∧ (W.cell? ⟨N19, 0, none⟩ = some (.slice a14 n14 c14) ∧ W.cell? ⟨N19, 1, none⟩ = some (.int .i64 s14) ∧ W.cell? ⟨N19, 2, none⟩ = some (.int .i64 q14)) ∧ (W.cell? ⟨N12, 0, none⟩ = some (.slice a6 l6 c6) ∧ W.cell? ⟨N12, 1, none⟩ = some (.int .i64 s14) ∧ W.cell? ⟨N12, 2, none⟩ = some (.int .i64 q14))) := fun W h =>
    have g16 := blk_up Bw12.out (up_trans v15.out h)
    have g19 := blk_up Bw15.out h
    have g12 := blk_up B7.out (up_trans v9.out (up_trans uw15.out h))
    ⟨(HCE.out W (up_trans u9.out (up_trans uw15.out h))).1, ⟨blk_cell g16 0 _ rfl, blk_cell g16 1 _ rfl, blk_cell g16 2 _ rfl⟩, ⟨blk_cell g19 0 _ rfl, blk_cell g19 1 _ rfl, blk_cell g19 2 _ rfl⟩, ⟨blk_cell g12 0 _ rfl, blk_cell g12 1 _ rfl, blk_cell g12 2 _ rfl⟩⟩
  rcases Hor.out with ⟨h1, h2, h3⟩ | ⟨h1, h2, h3⟩
  · rw [h1] at M12
    subst h2 h3
    obtain ⟨⟨x0, x1, x2⟩, ⟨p0, p1, p2⟩, ⟨q0, q1, q2⟩, ⟨t0, t1, t2⟩⟩ := HAL.out w15 (Below.refl _ _)
    go_wp2_with fail
    refine (num_any _ _).mono ?_
    rintro e wN ⟨rfl, hwN⟩
    have hwN := hwN.symm
    subst hwN
    go_wp2_with fail
    refine (num_any _ _).mono ?_
    rintro e wN ⟨rfl, hwN⟩
    have hwN := hwN.symm
    subst hwN
    go_wp2_with fail
    have hh := alike_self ts s11 q11 a11 va n11 c11 vn vc w15 (M12.out.up v15.out) (HM.out.up (up_trans U9.out uw15.out))
    refine Calls.mono hh ?_
    clear hh
    rintro e w16 ⟨rfl, b16⟩
    clear x0 x1 x2 p0 p1 p2 q0 q1 q2 t0 t1 t2
    obtain ⟨⟨x0, x1, x2⟩, ⟨p0, p1, p2⟩, ⟨q0, q1, q2⟩, ⟨t0, t1, t2⟩⟩ := HAL.out w16 b16.out
    go_wp2_with fail
    have hh := alike_self r.1 s14 q14 a14 a6 n14 c14 l6 c6 w16 (M15.out.up b16.out) (M7.out.up (up_trans v9.out (up_trans uw15.out b16.out)))
    refine Calls.mono hh ?_
    clear hh
    rintro e w19 ⟨rfl, b19⟩
    go_wp2_with fail
    go_ret
    exact ⟨rfl, up_trans U9.out (up_trans uw15.out (up_trans b16.out b19.out))⟩
  · rw [h1] at M12
    subst h2 h3
    obtain ⟨⟨x0, x1, x2⟩, ⟨p0, p1, p2⟩, ⟨q0, q1, q2⟩, ⟨t0, t1, t2⟩⟩ := HAL.out w15 (Below.refl _ _)
    go_wp2_with fail
    refine (num_any _ _).mono ?_
    rintro e wN ⟨rfl, hwN⟩
    have hwN := hwN.symm
    subst hwN
    go_wp2_with fail
    refine (num_any _ _).mono ?_
    rintro e wN ⟨rfl, hwN⟩
    have hwN := hwN.symm
    subst hwN
    go_wp2_with fail
    have hh := alike_some r.1 ts s11 q11 sq nx a11 va n11 c11 vn vc w15 (M12.out.up v15.out) (HM.out.up (up_trans U9.out uw15.out))
    refine Calls.mono hh ?_
    clear hh
    rintro e w16 ⟨k, rfl, b16⟩
    clear x0 x1 x2 p0 p1 p2 q0 q1 q2 t0 t1 t2
    by_cases hk0 : k = 0
    · subst hk0
      obtain ⟨⟨x0, x1, x2⟩, ⟨p0, p1, p2⟩, ⟨q0, q1, q2⟩, ⟨t0, t1, t2⟩⟩ := HAL.out w16 b16.out
      go_wp2_with fail
      have hh := alike_self r.1 s11 q11 a14 a6 n14 c14 l6 c6 w16 (M15.out.up b16.out) (M7.out.up (up_trans v9.out (up_trans uw15.out b16.out)))
      refine Calls.mono hh ?_
      clear hh
      rintro e w19 ⟨rfl, b19⟩
      go_wp2_with fail
      go_ret
      exact ⟨rfl, up_trans U9.out (up_trans uw15.out (up_trans b16.out b19.out))⟩
    · have hkb : (k == 0) = false := by simpa using hk0
      obtain ⟨⟨x0, x1, x2⟩, ⟨p0, p1, p2⟩, ⟨q0, q1, q2⟩, ⟨t0, t1, t2⟩⟩ := HAL.out w16 b16.out
      go_wp2_with fail
      have hh := alike_self r.1 s11 q11 a11 a6 n11 c11 l6 c6 w16 (M12.out.up (up_trans v15.out b16.out)) (M7.out.up (up_trans v9.out (up_trans uw15.out b16.out)))
      refine Calls.mono hh ?_
      clear hh
      rintro e w17 ⟨rfl, b17⟩
      have b17 : Hid (Below w15.heap.size w15 w17) := up_trans b16.out b17.out
      clear x0 x1 x2 p0 p1 p2 q0 q1 q2 t0 t1 t2
      obtain ⟨⟨x0, x1, x2⟩, ⟨p0, p1, p2⟩, ⟨q0, q1, q2⟩, ⟨t0, t1, t2⟩⟩ := HAL.out w17 b17.out
      go_wp2_with fail
      have hh := alike_self r.1 s11 q11 a14 a6 n14 c14 l6 c6 w17 (M15.out.up b17.out) (M7.out.up (up_trans v9.out (up_trans uw15.out b17.out)))
      refine Calls.mono hh ?_
      clear hh
      rintro e w19 ⟨rfl, b19⟩
      go_wp2_with fail
      go_ret
      exact ⟨rfl, up_trans U9.out (up_trans uw15.out (up_trans b17.out b19.out))⟩
end Go.Proofs.YtnchjlimkgbfpaaGreatDoor
