
import Derived.Test.YtnchjlimkgbfpaaGreatDoorOLdl
import Derived.Test.YtnchjlimkgbfpaaGreatDoorE50
import Derived.Test.YtnchjlimkgbfpaaGreatDoorE23
import Derived.Test.YtnchjlimkgbfpaaGreatDoorE33
import Derived.Test.YtnchjlimkgbfpaaGreatDoorE41
import Derived.Test.YtnchjlimkgbfpaaGreatDoorE31
import Derived.Deep.Cut
import Derived.Deep.RegionHeld3
namespace Go.Proofs.YtnchjlimkgbfpaaGreatDoor
open Go.RowKit
set_option linter.unusedVariables false
set_option linter.unusedSimpArgs false
set_option maxRecDepth 20000
set_option maxHeartbeats 8000000 in
theorem loads_walk (s : St) (v : Value) (ts : List Me) (seq next id log : Int) (va : Option Addr) (vn vc : Nat) (w : World) (hv : StW w v s) (h1 : s.files.length * 40 ≤ 140737488351232) (h2 : s.names.length * 24 ≤ 140737488351232) (h3 : s.safe.length * 24 ≤ 140737488351232) (hm : MetsR w (.slice va vn vc) ts) (htl : ts.length ≤ 4000000000000) (he : EnvL w) :
    Calls Tryz.prog 4 #[v, .agg #[.slice va vn vc, .int .i64 seq, .int .i64 next], .int .i64 id, .int .i64 log] w fun e w' => e = .returned (.bool true) ∧ Hid (Below w.heap.size w w') := by
  obtain ⟨af, nf, cf, an, nn, cn, as', ns, cs', ev⟩ := hv.shape
  subst ev
  have HS : Hid (StW w (.agg #[.int .i64 s.cap, .slice af nf cf, .slice an nn cn, .slice as' ns cs', .int .i64 s.next]) s) := hv
  have HM : Hid (MetsR w (.slice va vn vc) ts) := hm
  have HE : Hid (EnvL w) := he
  have HTl : Hid (ts.length ≤ 4000000000000) := htl
  have HNl : Hid (s.names.length + s.safe.length ≤ 9223372036854775807) := by unfold Hid; omega
  obtain ⟨w1, hw1⟩ : ∃ w1, w1 = (w.alloc (.cells #[.int .i64 s.cap, .slice af nf cf, .slice an nn cn, .slice as' ns cs', .int .i64 s.next] 25)).alloc (.cells #[.slice va vn vc, .int .i64 seq, .int .i64 next] 28) := ⟨_, rfl⟩
  have HW1 : Hid ((w.alloc (.cells #[.int .i64 s.cap, .slice af nf cf, .slice an nn cn, .slice as' ns cs', .int .i64 s.next] 25)).alloc (.cells #[.slice va vn vc, .int .i64 seq, .int .i64 next] 28) = w1) := hid hw1.symm
  have U1 : Hid (Below w.heap.size w w1) := by rw [hw1]; exact up_al (up_alloc _ _) _
  have B1 : Hid (w1.heap[w.heap.size]? = some (.cells #[.int .i64 s.cap, .slice af nf cf, .slice an nn cn, .slice as' ns cs', .int .i64 s.next] 25)) := by rw [hw1]; exact blk_up (blk_new _ _) (up_alloc _ _)
  have B2 : Hid (w1.heap[w.heap.size + 1]? = some (.cells #[.slice va vn vc, .int .i64 seq, .int .i64 next] 28)) := by
    rw [hw1]
    have := blk_new (w.alloc (.cells #[.int .i64 s.cap, .slice af nf cf, .slice an nn cn, .slice as' ns cs', .int .i64 s.next] 25)) (.cells #[.slice va vn vc, .int .i64 seq, .int .i64 next] 28)
    rw [show (w.alloc (.cells #[.int .i64 s.cap, .slice af nf cf, .slice an nn cn, .slice as' ns cs', .int .i64 s.next] 25)).heap.size = w.heap.size + 1 by simp] at this
    exact this
  have HOf := hid (of_any s _ w1 (HS.out.up U1.out) h1 h2 h3)
  clear hv hm he htl h1 h2 h3 hw1
  go_enter Tryz.func4, Tryz.ntmps4
  go_upto_region 1 with fail
  rw [HW1.out]
  clear HW1
  generalize hN1 : w.heap.size + 1 = N1 at *
  clear hN1
  have HCS : Hid (∀ W, Below w1.heap.size w1 W → (W.cell? ⟨w.heap.size, 0, none⟩ = some (.int .i64 s.cap) ∧ W.cell? ⟨w.heap.size, 1, none⟩ = some (.slice af nf cf) ∧ W.cell? ⟨w.heap.size, 2, none⟩ = some (.slice an nn cn) ∧ W.cell? ⟨w.heap.size, 3, none⟩ = some (.slice as' ns cs') ∧ W.cell? ⟨w.heap.size, 4, none⟩ = some (.int .i64 s.next)) ∧ (W.cell? ⟨N1, 0, none⟩ = some (.slice va vn vc) ∧ W.cell? ⟨N1, 1, none⟩ = some (.int .i64 seq) ∧ W.cell? ⟨N1, 2, none⟩ = some (.int .i64 next))) := fun W h =>
    have g0 := blk_up B1.out h
    have g1 := blk_up B2.out h
    ⟨⟨blk_cell g0 0 _ rfl, blk_cell g0 1 _ rfl, blk_cell g0 2 _ rfl, blk_cell g0 3 _ rfl, blk_cell g0 4 _ rfl⟩, ⟨blk_cell g1 0 _ rfl, blk_cell g1 1 _ rfl, blk_cell g1 2 _ rfl⟩⟩
  clear B1 B2
  obtain ⟨⟨x0, x1, x2, x3, x4⟩, ⟨y0, y1, y2⟩⟩ := HCS.out w1 (Below.refl _ _)
  go_wp2_with fail
  refine HOf.out.mono ?_
  rintro e w2 ⟨v2, rfl, ho2, hb2⟩
  obtain ⟨bf, mf, df, bn, mn, dn, bs, ms, ds, ev⟩ := (StW.own ho2).shape
  subst ev
  obtain ⟨w3, hw3⟩ : ∃ w3, w3 = w2.alloc (.cells #[.int .i64 s.cap, .slice bf mf df, .slice bn mn dn, .slice bs ms ds, .int .i64 s.next] 35) := ⟨_, rfl⟩
  have HW3 : Hid (w2.alloc (.cells #[.int .i64 s.cap, .slice bf mf df, .slice bn mn dn, .slice bs ms ds, .int .i64 s.next] 35) = w3) := hid hw3.symm
  have V23 : Hid (Below w2.heap.size w2 w3) := by rw [hw3]; exact up_alloc _ _
  have V3 : Hid (Below w1.heap.size w1 w3) := up_trans hb2 V23.out
  have U3 : Hid (Below w.heap.size w w3) := up_trans U1.out V3.out
  have HS3 : Hid (StW w3 (.agg #[.int .i64 s.cap, .slice bf mf df, .slice bn mn dn, .slice bs ms ds, .int .i64 s.next]) s) := (StW.own ho2).up V23.out
  have B3 : Hid (w3.heap[w2.heap.size]? = some (.cells #[.int .i64 s.cap, .slice bf mf df, .slice bn mn dn, .slice bs ms ds, .int .i64 s.next] 35)) := by rw [hw3]; exact blk_new _ _
  clear hw3 ho2 hb2 HOf x0 x1 x2 x3 x4 y0 y1 y2 V23 U1
  go_upto_region 2 with fail
  rw [HW3.out]
  clear HW3
  generalize w2.heap.size = N9 at *
  have HCX : Hid (∀ W, Below w3.heap.size w3 W → (W.cell? ⟨w.heap.size, 0, none⟩ = some (.int .i64 s.cap) ∧ W.cell? ⟨w.heap.size, 1, none⟩ = some (.slice af nf cf) ∧ W.cell? ⟨w.heap.size, 2, none⟩ = some (.slice an nn cn) ∧ W.cell? ⟨w.heap.size, 3, none⟩ = some (.slice as' ns cs') ∧ W.cell? ⟨w.heap.size, 4, none⟩ = some (.int .i64 s.next)) ∧ (W.cell? ⟨N1, 0, none⟩ = some (.slice va vn vc) ∧ W.cell? ⟨N1, 1, none⟩ = some (.int .i64 seq) ∧ W.cell? ⟨N1, 2, none⟩ = some (.int .i64 next))) := fun W h => HCS.out W (up_trans V3.out h)
  have HCT : Hid (∀ W, Below w3.heap.size w3 W → W.cell? ⟨N9, 0, none⟩ = some (.int .i64 s.cap) ∧ W.cell? ⟨N9, 1, none⟩ = some (.slice bf mf df) ∧ W.cell? ⟨N9, 2, none⟩ = some (.slice bn mn dn) ∧ W.cell? ⟨N9, 3, none⟩ = some (.slice bs ms ds) ∧ W.cell? ⟨N9, 4, none⟩ = some (.int .i64 s.next)) := fun W h => have g := blk_up B3.out h; ⟨blk_cell g 0 _ rfl, blk_cell g 1 _ rfl, blk_cell g 2 _ rfl, blk_cell g 3 _ rfl, blk_cell g 4 _ rfl⟩
  clear HCS V3
  clear B3
  clear w1
  obtain ⟨p0, p1, p2, p3, p4⟩ := HCT.out w3 (Below.refl _ _)
  obtain ⟨R, hR⟩ : ∃ R, R = loadP s := ⟨_, rfl⟩
  have HL : Hid (Calls Tryz.prog 19 #[.agg #[.int .i64 s.cap, .slice bf mf df, .slice bn mn dn, .slice bs ms ds, .int .i64 s.next]] w3 (LoadE w3 R)) := by rw [hR]; exact load_any s _ w3 HS3.out HNl.out (HE.out.up U3.out).1
  have HLr : Hid (∀ W, Below w3.heap.size w3 W → Calls Tryz.prog 20 #[.agg #[.int .i64 s.cap, .slice af nf cf, .slice an nn cn, .slice as' ns cs', .int .i64 s.next]] W (LoadD W R)) := by
    intro W u
    rw [hR]
    exact refLoad_any s _ W (HS.out.up (up_trans U3.out u))
  clear hR
  go_wp2_with fail
  refine HL.out.mono ?_
  rintro e w4 ⟨a4, n4, c4, s4, x4', rfl, HV4, b4⟩
  obtain ⟨hO4, hs4, hx4⟩ := HV4.out R.1 rfl
  have M4 : MetsR w4 (.slice a4 n4 c4) R.1.1 := Rws.own hO4
  obtain ⟨w5, hw5⟩ : ∃ w5, w5 = w4.alloc (.cells #[.slice a4 n4 c4, .int .i64 s4, .int .i64 x4'] 39) := ⟨_, rfl⟩
  have HW5 : Hid (w4.alloc (.cells #[.slice a4 n4 c4, .int .i64 s4, .int .i64 x4'] 39) = w5) := hid hw5.symm
  have V45 : Hid (Below w4.heap.size w4 w5) := by rw [hw5]; exact up_alloc _ _
  have V5 : Hid (Below w3.heap.size w3 w5) := up_trans b4.out V45.out
  have B5 : Hid (w5.heap[w4.heap.size]? = some (.cells #[.slice a4 n4 c4, .int .i64 s4, .int .i64 x4'] 39)) := by rw [hw5]; exact blk_new _ _
  have M5 := hid (M4.up V45.out)
  have HE4 := hid (And.intro hs4 hx4)
  clear hw5 M4 hO4 hs4 hx4 HV4 b4 V45 HL p0 p1 p2 p3 p4
  go_upto_region 3 with fail
  rw [HW5.out]
  clear HW5
  generalize w4.heap.size = N10 at *
  obtain ⟨⟨x0, x1, x2, x3, x4⟩, ⟨y0, y1, y2⟩⟩ := HCX.out w5 V5.out
  go_wp2_with fail
  refine (HLr.out w5 V5.out).mono ?_
  rintro e w6 ⟨a6, n6, c6, s6, x6, rfl, HV6, b6⟩
  have M6' := HV6.out.1
  have HE6 := hid HV6.out.2
  obtain ⟨w7, hw7⟩ : ∃ w7, w7 = w6.alloc (.cells #[.slice a6 n6 c6, .int .i64 s6, .int .i64 x6] 28) := ⟨_, rfl⟩
  have HW7 : Hid (w6.alloc (.cells #[.slice a6 n6 c6, .int .i64 s6, .int .i64 x6] 28) = w7) := hid hw7.symm
  have V67 : Hid (Below w6.heap.size w6 w7) := by rw [hw7]; exact up_alloc _ _
  have V57 : Hid (Below w5.heap.size w5 w7) := up_trans b6.out V67.out
  have V7 : Hid (Below w3.heap.size w3 w7) := up_trans V5.out V57.out
  have B7 : Hid (w7.heap[w6.heap.size]? = some (.cells #[.slice a6 n6 c6, .int .i64 s6, .int .i64 x6] 28)) := by rw [hw7]; exact blk_new _ _
  have B57 := hid (blk_up B5.out V57.out)
  have M7 := hid (M6'.up V67.out)
  have M57 := hid (M5.out.up V57.out)
  clear hw7 M6' HV6 b6 V67 B5 M5 HLr x0 x1 x2 x3 x4 y0 y1 y2 V5 V57
  go_upto_region 4 with fail
  rw [HW7.out]
  clear HW7
  generalize w6.heap.size = N13 at *
  obtain ⟨⟨x0, x1, x2, x3, x4⟩, ⟨y0, y1, y2⟩⟩ := HCX.out w7 V7.out
  obtain ⟨p0, p1, p2, p3, p4⟩ := HCT.out w7 V7.out
  have HCE : Hid (∀ W, Below w7.heap.size w7 W → (W.cell? ⟨N9, 0, none⟩ = some (.int .i64 s.cap) ∧ W.cell? ⟨N9, 1, none⟩ = some (.slice bf mf df) ∧ W.cell? ⟨N9, 2, none⟩ = some (.slice bn mn dn) ∧ W.cell? ⟨N9, 3, none⟩ = some (.slice bs ms ds) ∧ W.cell? ⟨N9, 4, none⟩ = some (.int .i64 s.next)) ∧ (W.cell? ⟨N1, 0, none⟩ = some (.slice va vn vc) ∧ W.cell? ⟨N1, 1, none⟩ = some (.int .i64 seq) ∧ W.cell? ⟨N1, 2, none⟩ = some (.int .i64 next))) := fun W h => ⟨HCT.out W (up_trans V7.out h), (HCX.out W (up_trans V7.out h)).2⟩
  have C8 : Hid (∀ W, Below w7.heap.size w7 W → Calls Tryz.prog 8 #[.agg #[.slice va vn vc, .int .i64 seq, .int .i64 next]] W fun e w' => ∃ a n c, e = .returned (.agg #[.slice a n c, .int .i64 seq, .int .i64 next]) ∧ w'.cell? ⟨N9, 0, none⟩ = some (.int .i64 s.cap) ∧ w'.cell? ⟨N9, 1, none⟩ = some (.slice bf mf df) ∧ w'.cell? ⟨N9, 2, none⟩ = some (.slice bn mn dn) ∧ w'.cell? ⟨N9, 3, none⟩ = some (.slice bs ms ds) ∧ w'.cell? ⟨N9, 4, none⟩ = some (.int .i64 s.next) ∧ w'.cell? ⟨N1, 0, none⟩ = some (.slice va vn vc) ∧ w'.cell? ⟨N1, 1, none⟩ = some (.int .i64 seq) ∧ w'.cell? ⟨N1, 2, none⟩ = some (.int .i64 next) ∧ Hid (MetsR w' (.slice a n c) ts) ∧ Hid (Below w7.heap.size w7 w')) := by
    intro W u
    refine (of_anyE ts seq next va vn vc W (HM.out.up (up_trans (up_trans U3.out V7.out) u)) HTl.out).mono ?_
    rintro e w' ⟨a, n, c, rfl, hO, hb⟩
    have hu := up_trans u hb.out
    obtain ⟨⟨q0, q1, q2, q3, q4⟩, ⟨q5, q6, q7⟩⟩ := HCE.out w' hu
    exact ⟨a, n, c, rfl, q0, q1, q2, q3, q4, q5, q6, q7, VerO.read hO.out, hu⟩
  obtain ⟨T, hT⟩ : ∃ T, T = orphP s ts id log := ⟨_, rfl⟩
  have C21 : Hid (∀ a n c W, MetsR W (.slice a n c) ts → Below w7.heap.size w7 W → Calls Tryz.prog 21 #[.agg #[.int .i64 s.cap, .slice bf mf df, .slice bn mn dn, .slice bs ms ds, .int .i64 s.next], .agg #[.slice a n c, .int .i64 seq, .int .i64 next], .int .i64 id, .int .i64 log] W fun e w' => ∃ a' n' c', e = .returned (.tuple #[.slice a' n' c', .int .i64 T.2]) ∧ w'.cell? ⟨N9, 0, none⟩ = some (.int .i64 s.cap) ∧ w'.cell? ⟨N9, 1, none⟩ = some (.slice bf mf df) ∧ w'.cell? ⟨N9, 2, none⟩ = some (.slice bn mn dn) ∧ w'.cell? ⟨N9, 3, none⟩ = some (.slice bs ms ds) ∧ w'.cell? ⟨N9, 4, none⟩ = some (.int .i64 s.next) ∧ w'.cell? ⟨N1, 0, none⟩ = some (.slice va vn vc) ∧ w'.cell? ⟨N1, 1, none⟩ = some (.int .i64 seq) ∧ w'.cell? ⟨N1, 2, none⟩ = some (.int .i64 next) ∧ Hid (TextsW w' (.slice a' n' c') T.1) ∧ Hid (Below w7.heap.size w7 w')) := by
    intro a n c W hMW u
    rw [hT]
    refine (orphans_any s _ ts seq next id log a n c W (HS3.out.up (up_trans V7.out u)) hMW HNl.out HTl.out (HE.out.up (up_trans (up_trans U3.out V7.out) u))).mono ?_
    rintro e w' ⟨v', rfl, hO, hb⟩
    obtain ⟨a', c', hav, -, -⟩ := (Rws.own hO.out).len
    subst hav
    have hu := up_trans u hb.out
    obtain ⟨⟨q0, q1, q2, q3, q4⟩, ⟨q5, q6, q7⟩⟩ := HCE.out w' hu
    exact ⟨a', _, c', rfl, q0, q1, q2, q3, q4, q5, q6, q7, Rws.own hO.out, hu⟩
  have C22 : Hid (∀ W, Below w7.heap.size w7 W → Calls Tryz.prog 22 #[.agg #[.int .i64 s.cap, .slice af nf cf, .slice an nn cn, .slice as' ns cs', .int .i64 s.next], .agg #[.slice va vn vc, .int .i64 seq, .int .i64 next], .int .i64 id, .int .i64 log] W fun e w' => ∃ a' n' c', e = .returned (.tuple #[.slice a' n' c', .int .i64 T.2]) ∧ Hid (TextsW w' (.slice a' n' c') T.1) ∧ Hid (Below W.heap.size W w')) := by
    intro W u
    rw [hT]
    exact refOrph_any s _ ts seq next id log va vn vc W (HS.out.up (up_trans (up_trans U3.out V7.out) u)) (HM.out.up (up_trans (up_trans U3.out V7.out) u))
  clear hT
  go_cut [16, 17] from 20 (fun vA vB wx => ∃ a' n' c', vA = .slice a' n' c' ∧ vB = .int .i64 T.2 ∧ Hid (TextsW wx (.slice a' n' c') T.1) ∧ Hid (Below w7.heap.size w7 wx))
  case first =>
    clear x0 x1 x2 x3 x4
    go_region_held3 (fun w' => w'.cell? ⟨N9, 0, none⟩ = some (.int .i64 s.cap) ∧ w'.cell? ⟨N9, 1, none⟩ = some (.slice bf mf df) ∧ w'.cell? ⟨N9, 2, none⟩ = some (.slice bn mn dn) ∧ w'.cell? ⟨N9, 3, none⟩ = some (.slice bs ms ds) ∧ w'.cell? ⟨N9, 4, none⟩ = some (.int .i64 s.next) ∧ w'.cell? ⟨N1, 0, none⟩ = some (.slice va vn vc) ∧ w'.cell? ⟨N1, 1, none⟩ = some (.int .i64 seq) ∧ w'.cell? ⟨N1, 2, none⟩ = some (.int .i64 next)) (first | with_reducible exact ⟨p0, p1, p2, p3, p4, y0, y1, y2⟩ | with_reducible exact ⟨t0, t1, t2, t3, t4, t5, t6, t7⟩ | with_reducible exact ⟨u0, u1, u2, u3, u4, u5, u6, u7⟩ | (simp [go_sem, p0, p1, p2, p3, p4, y0, y1, y2]; done)) (first
      | (go_at_call 8; with_reducible refine (C8.out _ (up_dr (Below.refl _ _))).mono ?_; rintro e wa ⟨aa, na, ca, rfl, t0, t1, t2, t3, t4, t5, t6, t7, Ma, ua⟩)
      | (go_at_call 21; with_reducible refine (C21.out _ _ _ _ Ma.out ua.out).mono ?_; rintro e wb ⟨ab, nb, cb, rfl, u0, u1, u2, u3, u4, u5, u6, u7, Tb, ub⟩))
    all_goals
      go_wp2_with fail
      go_meet
      case rel => exact ⟨ab, nb, cb, rfl, rfl, Tb, ub⟩
  case rest =>
  obtain ⟨a8, n8, c8, rfl, rfl, T8, V8⟩ := hcut
  clear C8 C21 HCE x0 x1 x2 x3 x4 y0 y1 y2 p0 p1 p2 p3 p4
  have V8' : Hid (Below w3.heap.size w3 wc) := up_trans V7.out V8.out
  have U8 : Hid (Below w.heap.size w wc) := up_trans U3.out V8'.out
  obtain ⟨⟨x0, x1, x2, x3, x4⟩, ⟨y0, y1, y2⟩⟩ := HCX.out wc V8'.out
  go_wp2_with fail
  refine (C22.out wc V8.out).mono ?_
  rintro e w9 ⟨a9, n9, c9, rfl, T9, b9⟩
  have T8 := hid (T8.out.up b9.out)
  have V9 : Hid (Below w7.heap.size w7 w9) := up_trans V8.out b9.out
  have U9 : Hid (Below w.heap.size w w9) := up_trans U8.out b9.out
  have V39 : Hid (Below w3.heap.size w3 w9) := up_trans V8'.out b9.out
  clear b9 C22 x0 x1 x2 x3 x4 y0 y1 y2
  have g5 := blk_up B57.out V9.out
  have g7 := blk_up B7.out V9.out
  have q0 := blk_cell g5 0 _ rfl
  have q1 := blk_cell g5 1 _ rfl
  have q2 := blk_cell g5 2 _ rfl
  have r0 := blk_cell g7 0 _ rfl
  have r1 := blk_cell g7 1 _ rfl
  have r2 := blk_cell g7 2 _ rfl
  clear g5 g7
  obtain rfl : s4 = s6 := HE4.out.1.trans HE6.out.1.symm
  obtain rfl : x4' = x6 := HE4.out.2.trans HE6.out.2.symm
  have HAl := hid (alike_self R.1.1 s4 x4' a4 a6 n4 c4 n6 c6 w9 (M57.out.up V9.out) (M7.out.up V9.out))
  clear HE4 HE6
  obtain ⟨ri, hri⟩ : ∃ ri, ri = R.2.1 := ⟨_, rfl⟩
  obtain ⟨re, hre⟩ : ∃ re, re = R.2.2 := ⟨_, rfl⟩
  obtain ⟨te, hte⟩ : ∃ te, te = T.2 := ⟨_, rfl⟩
  rw [← hri, ← hre, ← hte]
  clear hri hre hte
  go_wp2_with fail
  have hh := HAl.out
  refine Calls.mono hh ?_
  clear hh HAl q0 q1 q2 r0 r1 r2
  rintro e w10 ⟨rfl, b10⟩
  have T8 := hid (T8.out.up b10.out)
  have T9 := hid (T9.out.up b10.out)
  have U10 : Hid (Below w.heap.size w w10) := up_trans U9.out b10.out
  have V10 : Hid (Below w3.heap.size w3 w10) := up_trans V39.out b10.out
  clear b10
  go_wp2_with fail
  refine (num_any _ _).mono ?_
  rintro e wN ⟨rfl, hwN⟩
  have hwN := hwN.symm
  subst hwN
  go_wp2_with fail
  have hh := sameTexts_self T.1 (.slice a8 n8 c8) (.slice a9 n9 c9) w10 T8.out T9.out
  refine Calls.mono hh ?_
  clear hh
  rintro e w11 ⟨rfl, b11⟩
  have U11 : Hid (Below w.heap.size w w11) := up_trans U10.out b11
  have V11 : Hid (Below w3.heap.size w3 w11) := up_trans V10.out b11
  clear b11 T8 T9
  go_wp2_with fail
  refine (num_any _ _).mono ?_
  rintro e wN ⟨rfl, hwN⟩
  have hwN := hwN.symm
  subst hwN
  obtain ⟨⟨x0, x1, x2, x3, x4⟩, ⟨y0, y1, y2⟩⟩ := HCX.out w11 V11.out
  obtain ⟨p0, p1, p2, p3, p4⟩ := HCT.out w11 V11.out
  go_wp2_with fail
  have hh := alikeS_self s _ _ w11 (HS3.out.up V11.out) (HS.out.up U11.out)
  refine Calls.mono hh ?_
  clear hh
  rintro e w12 ⟨rfl, b12⟩
  have U12 : Hid (Below w.heap.size w w12) := up_trans U11.out b12
  clear b12 x0 x1 x2 x3 x4 y0 y1 y2 p0 p1 p2 p3 p4
  go_wp2_with fail
  have hh := alive_any w12 (HE.out.up U12.out)
  refine Calls.mono hh ?_
  clear hh
  rintro e w13 ⟨rfl, b13⟩
  go_wp2_with fail
  try go_ret
  exact ⟨rfl, up_trans U12.out b13⟩
end Go.Proofs.YtnchjlimkgbfpaaGreatDoor
