
import Derived.Test.YtnchjlimkgbfpaaGreatDoorZ27
import Derived.Test.YtnchjlimkgbfpaaGreatDoorZ30
import Derived.Test.YtnchjlimkgbfpaaGreatDoorOEnr
import Derived.Test.YtnchjlimkgbfpaaGreatDoorONtx
import Derived.Test.YtnchjlimkgbfpaaGreatDoorZ34
import Derived.Test.YtnchjlimkgbfpaaGreatDoorZ12
import Derived.Deep.RegionHeld3
namespace Go.Proofs.YtnchjlimkgbfpaaGreatDoor
open Go.RowKit
set_option linter.unusedVariables false
set_option linter.unusedSimpArgs false
set_option maxRecDepth 20000
set_option maxHeartbeats 2000000 in
theorem refNote_any (id seq next : Int) (drop : List Int) (adds : List Me) (da aa : Option Addr) (dn dc an ac : Nat) (w : World) (hd : IntsR w (.slice da dn dc) drop) (ha : MetsR w (.slice aa an ac) adds) :
    Calls Tryz.prog 13 #[.int .i64 id, .agg #[.slice da dn dc, .slice aa an ac, .int .i64 seq, .int .i64 next]] w fun e w' => ∃ a n c, e = .returned (.tuple #[.slice a n c, .int .i64 (notP id seq next drop adds).2]) ∧ Hid (ActR w' (.slice a n c) (notP id seq next drop adds).1) ∧ Hid (Below w.heap.size w w') := by
  have HD : Hid (IntsR w (.slice da dn dc) drop) := hd
  have HA : Hid (MetsR w (.slice aa an ac) adds) := ha
  have HPd : Hid (notP id seq next drop adds = if idOk id then (if (encE seq next drop adds).2 = 0 then (noteA (nameN 109 id).1 (edF seq next drop adds), 0) else ([], (encE seq next drop adds).2)) else ([], 4)) := rfl
  obtain ⟨w0, hw0⟩ : ∃ w0, w0 = w.alloc (.cells #[.slice da dn dc, .slice aa an ac, .int .i64 seq, .int .i64 next] 31) := ⟨_, rfl⟩
  have HW0 : Hid (w.alloc (.cells #[.slice da dn dc, .slice aa an ac, .int .i64 seq, .int .i64 next] 31) = w0) := hid hw0.symm
  have U0 : Hid (Below w.heap.size w w0) := by rw [hw0]; exact up_alloc _ _
  have B0 : Hid (w0.heap[w.heap.size]? = some (.cells #[.slice da dn dc, .slice aa an ac, .int .i64 seq, .int .i64 next] 31)) := by rw [hw0]; exact blk_new _ _
  clear hw0 hd ha
  by_cases hid2 : idOk id = true
  case neg =>
    have hif : idOk id = false := by simpa using hid2
    rw [if_neg hid2] at HPd
    have hne : nameN 109 id = ([], 4) := by unfold nameN; rw [hif]; rfl
    have HNa := hid (refNameX 109 id { data := #[] } 4 (by rw [hne]; rfl) (by omega) w0)
    clear hid2 hif hne
    go_enter Tryz.func13, Tryz.ntmps13
    go_upto_region 1 with fail
    rw [HW0.out]
    clear HW0
    go_wp2_with fail
    refine HNa.out.mono ?_
    rintro e w1 ⟨rfl, b1⟩
    have U1 : Hid (Below w.heap.size w w1) := up_trans U0.out b1
    clear b1 HNa
    go_wp2_with fail
    go_ret2
    rw [HPd.out]
    exact ⟨_, _, _, rfl, ActR.nil _, U1⟩
  rw [if_pos hid2] at HPd
  obtain ⟨hn1, hn2, hn3⟩ := nameN_octO hid2
  rw [hn1] at HPd
  simp only at HPd
  obtain ⟨M, hM⟩ : ∃ M : List Int, M = 109 :: digs id.toNat := ⟨_, rfl⟩
  have HNa := hid (refNameX 109 id (strOfNums M) 0 (by rw [hn1, hM]) (by omega) w0)
  rw [← hM] at HPd
  clear hM hn1 hn2 hn3 hid2
  have HNM : Hid (∀ (W : World) (F : List Int) (v : Value), Octs W v F → ActR (W.alloc (.cells #[.int .i64 2, .string (strOfNums M), .string ⟨#[]⟩, v, .int .i64 3, .string (strOfNums M), .string ⟨#[]⟩, .slice none 0 0] 94)) (.slice (some ⟨W.heap.size, 0, none⟩) 2 2) (noteA M F)) := fun W F v h => note_made W M F v h
  generalize strOfNums M = S at *
  go_enter Tryz.func13, Tryz.ntmps13
  go_upto_region 1 with fail
  rw [HW0.out]
  clear HW0
  go_wp2_with fail
  refine HNa.out.mono ?_
  rintro e w1 ⟨rfl, u1⟩
  have B1 := hid (blk_up B0.out u1)
  have x0 := blk_cell B1.out 0 _ rfl
  have x1 := blk_cell B1.out 1 _ rfl
  have x2 := blk_cell B1.out 2 _ rfl
  have x3 := blk_cell B1.out 3 _ rfl
  have U1 : Hid (Below w.heap.size w w1) := up_trans U0.out u1
  have HEo := hid (refEncE_any seq next drop adds da aa dn dc an ac w1 (HD.out.up U1.out) (HA.out.up U1.out))
  clear HNa u1 B0
  by_cases c : (encE seq next drop adds).2 = 0
  · rw [if_pos c] at HPd
    rw [encE_good c] at HEo
    have ho := edO_octet c
    have hl := edO_len c
    have HOl := hid (And.intro ho hl)
    have HX : Hid (edF seq next drop adds = frameOf 5 (edO seq next drop adds)) := rfl
    have HFo : Hid (∀ x ∈ edF seq next drop adds, 0 ≤ x ∧ x ≤ 255) := frame_octet 5 _ (by omega) (by omega) ho
    generalize edF seq next drop adds = F at *
    generalize edO seq next drop adds = X at *
    clear c ho hl
    go_wp2_with fail
    refine HEo.out.mono ?_
    rintro e w2 ⟨a2, n2, c2, rfl, O2, b2⟩
    have U2 : Hid (Below w.heap.size w w2) := up_trans U1.out b2.out
    have h2 : Octs w2 (.slice a2 n2 c2) X := Octs.own O2.out HOl.out.1
    obtain ⟨a3, c3, e3, _⟩ := h2.slice
    injection e3 with e31 e32 e33
    subst e32
    have HF := hid (rput_good 5 a2 c2 X w2 h2 (by omega) (by omega) (by have := HOl.out.2; omega))
    clear h2 O2 b2 HEo x0 x1 x2 x3 B1 e31 e33
    go_wp2_with fail
    refine HF.out.mono ?_
    rintro e w3 ⟨v3, rfl, o3, b3⟩
    obtain ⟨a4, n4, c4, e4, _⟩ := own_shape o3
    subst e4
    have U3 : Hid (Below w.heap.size w w3) := up_trans U2.out b3
    have OC : Hid (Octs w3 (.slice a4 n4 c4) F) := by rw [HX.out]; exact Octs.own o3 (by rw [← HX.out]; exact HFo.out)
    clear o3 b3 HF
    go_wp2_with fail
    go_ret2
    rw [HPd.out]
    exact ⟨_, _, _, rfl, HNM.out _ _ _ OC.out, up_al U3.out _⟩
  · rw [if_neg c] at HPd
    have cb : ((encE seq next drop adds).2 == 0) = false := by simpa using c
    have cn : ((encE seq next drop adds).2 != 0) = true := by simpa using c
    generalize (encE seq next drop adds) = Y at *
    go_wp2_with fail
    refine HEo.out.mono ?_
    rintro e w2 ⟨a2, n2, c2, rfl, O2, b2⟩
    have U2 : Hid (Below w.heap.size w w2) := up_trans U1.out b2.out
    clear O2 HEo x0 x1 x2 x3 B1 b2
    go_wp2_with fail
    go_ret2
    rw [HPd.out]
    exact ⟨_, _, _, rfl, ActR.nil _, U2⟩
set_option maxHeartbeats 8000000 in
theorem refBegin_any (s : St) (v : Value) (ts : List Me) (seq next id : Int) (va : Option Addr) (vn vc : Nat) (w : World) (hv : StW w v s) (hm : MetsR w (.slice va vn vc) ts) :
    Calls Tryz.prog 11 #[v, .agg #[.slice va vn vc, .int .i64 seq, .int .i64 next], .int .i64 id] w fun e w' => ∃ a n c, e = .returned (.tuple #[.slice a n c, .int .i64 (begP s ts seq next id).2]) ∧ Hid (ActR w' (.slice a n c) (begP s ts seq next id).1) ∧ Hid (Below w.heap.size w w') := by
  have HNm := hid (list_namesO hv)
  obtain ⟨af, nf, cf, an, nn, cn, as', ns, cs', ev⟩ := hv.shape
  subst ev
  have HS : Hid (StW w (.agg #[.int .i64 s.cap, .slice af nf cf, .slice an nn cn, .slice as' ns cs', .int .i64 s.next]) s) := hv
  have HM : Hid (MetsR w (.slice va vn vc) ts) := hm
  obtain ⟨w1, hw1⟩ : ∃ w1, w1 = (w.alloc (.cells #[.int .i64 s.cap, .slice af nf cf, .slice an nn cn, .slice as' ns cs', .int .i64 s.next] 25)).alloc (.cells #[.slice va vn vc, .int .i64 seq, .int .i64 next] 28) := ⟨_, rfl⟩
  have HW1 : Hid ((w.alloc (.cells #[.int .i64 s.cap, .slice af nf cf, .slice an nn cn, .slice as' ns cs', .int .i64 s.next] 25)).alloc (.cells #[.slice va vn vc, .int .i64 seq, .int .i64 next] 28) = w1) := hid hw1.symm
  have U1 : Hid (Below w.heap.size w w1) := by rw [hw1]; exact up_al (up_alloc _ _) _
  have B1 : Hid (w1.heap[w.heap.size]? = some (.cells #[.int .i64 s.cap, .slice af nf cf, .slice an nn cn, .slice as' ns cs', .int .i64 s.next] 25)) := by rw [hw1]; exact blk_up (blk_new _ _) (up_alloc _ _)
  have B2 : Hid (w1.heap[w.heap.size + 1]? = some (.cells #[.slice va vn vc, .int .i64 seq, .int .i64 next] 28)) := by
    rw [hw1]
    have := blk_new (w.alloc (.cells #[.int .i64 s.cap, .slice af nf cf, .slice an nn cn, .slice as' ns cs', .int .i64 s.next] 25)) (.cells #[.slice va vn vc, .int .i64 seq, .int .i64 next] 28)
    rw [show (w.alloc (.cells #[.int .i64 s.cap, .slice af nf cf, .slice an nn cn, .slice as' ns cs', .int .i64 s.next] 25)).heap.size = w.heap.size + 1 by simp] at this
    exact this
  have HCk := hid (refCheck_any s _ w1 (HS.out.up U1.out))
  have HWh : Hid (∀ W, Below w.heap.size w W → Calls Tryz.prog 40 #[.agg #[.slice va vn vc, .int .i64 seq, .int .i64 next]] W (WhoR W ts seq next)) := fun W hW => refWhole_any ts seq next va vn vc W (HM.out.up hW)
  have HPd : Hid (begP s ts seq next id = if checkP s then (if errV ts seq next = 0 then (if idOk id then (begL s (nameN 109 id).1 (edF seq next [] ts) (ptrF id), 0) else ([], 4)) else ([], 9)) else ([], 9)) := rfl
  have HCS : Hid (∀ W, Below w1.heap.size w1 W → W.cell? ⟨w.heap.size, 0, none⟩ = some (.int .i64 s.cap) ∧ W.cell? ⟨w.heap.size, 1, none⟩ = some (.slice af nf cf) ∧ W.cell? ⟨w.heap.size, 2, none⟩ = some (.slice an nn cn) ∧ W.cell? ⟨w.heap.size, 3, none⟩ = some (.slice as' ns cs') ∧ W.cell? ⟨w.heap.size, 4, none⟩ = some (.int .i64 s.next)) := fun W h => have g := blk_up B1.out h; ⟨blk_cell g 0 _ rfl, blk_cell g 1 _ rfl, blk_cell g 2 _ rfl, blk_cell g 3 _ rfl, blk_cell g 4 _ rfl⟩
  obtain ⟨x0, x1, x2, x3, x4⟩ := HCS.out w1 (Below.refl _ _)
  clear hv hm hw1
  go_enter Tryz.func11, Tryz.ntmps11
  go_upto_region 1 with fail
  rw [HW1.out]
  clear HW1
  cases hchk : checkP s with
  | false =>
    rw [hchk] at HPd HCk
    simp only [Bool.false_eq_true, if_false] at HPd
    have e9 : errOf false = 9 := rfl
    rw [e9] at HCk
    clear e9 hchk
    go_wp2_with fail
    refine HCk.out.mono ?_
    rintro e w2 ⟨rfl, b2⟩
    have U2 : Hid (Below w.heap.size w w2) := up_trans U1.out b2
    clear b2 HCk x0 x1 x2 x3 x4
    go_wp2_with fail
    go_ret2
    rw [HPd.out]
    exact ⟨_, _, _, rfl, ActR.nil _, U2⟩
  | true =>
    have HC := hid hchk
    rw [hchk] at HPd HCk
    simp only [if_true] at HPd
    have e0 : errOf true = 0 := rfl
    rw [e0] at HCk
    clear e0 hchk
    go_wp2_with fail
    refine HCk.out.mono ?_
    rintro e w2 ⟨rfl, b2⟩
    have V2 : Hid (Below w1.heap.size w1 w2) := b2
    have U2 : Hid (Below w.heap.size w w2) := up_trans U1.out b2
    have z0 := blk_cell (blk_up B2.out b2) 0 _ rfl
    have z1 := blk_cell (blk_up B2.out b2) 1 _ rfl
    have z2 := blk_cell (blk_up B2.out b2) 2 _ rfl
    have HW2 := hid (HWh.out w2 U2.out)
    clear b2 HCk x0 x1 x2 x3 x4 HWh
    by_cases hev : errV ts seq next = 0
    · rw [if_pos hev] at HPd
      have HEv := hid (errV_zero.1 hev)
      have HWo : Hid (Calls Tryz.prog 40 #[.agg #[.slice va vn vc, .int .i64 seq, .int .i64 next]] w2 fun e w' => ∃ a n c, e = .returned (.tuple #[.agg #[.slice none 0 0, .slice a n c, .int .i64 seq, .int .i64 next], .int .i64 0]) ∧ Hid (MetsR w' (.slice a n c) ts) ∧ Hid (Below w2.heap.size w2 w')) := by
        refine HW2.out.mono ?_
        intro e w' h
        unfold WhoR at h
        rw [if_pos hev] at h
        obtain ⟨a, n, c, rfl, o, b⟩ := h
        exact ⟨a, n, c, rfl, Rws.own o, b⟩
      clear HW2 hev
      go_wp2_with fail
      refine HWo.out.mono ?_
      rintro e w3 ⟨a3, n3, c3, rfl, M3, b3⟩
      obtain ⟨w4, hw4⟩ : ∃ w4, w4 = w3.alloc (.cells #[.slice none 0 0, .slice a3 n3 c3, .int .i64 seq, .int .i64 next] 31) := ⟨_, rfl⟩
      have HW4 : Hid (w3.alloc (.cells #[.slice none 0 0, .slice a3 n3 c3, .int .i64 seq, .int .i64 next] 31) = w4) := hid hw4.symm
      have Vx : Hid (Below w3.heap.size w3 w4) := by rw [hw4]; exact up_alloc _ _
      have V4 : Hid (Below w1.heap.size w1 w4) := up_trans (up_trans V2.out b3.out) Vx.out
      have B4 : Hid (w4.heap[w3.heap.size]? = some (.cells #[.slice none 0 0, .slice a3 n3 c3, .int .i64 seq, .int .i64 next] 31)) := by rw [hw4]; exact blk_new _ _
      have M4 := hid (M3.out.up Vx.out)
      clear hw4 M3 b3 HWo z0 z1 z2 B2 V2 U2 Vx
      go_upto_region 7 with fail
      rw [HW4.out]
      clear HW4
      generalize w3.heap.size = N3 at *
      by_cases hid2 : idOk id = true
      · rw [if_pos hid2] at HPd
        obtain ⟨hn1, hn2, hn3⟩ := nameN_octO hid2
        rw [hn1] at HPd
        have h3 : 1 ≤ id ∧ id ≤ 2147483647 := by simpa [idOk] using hid2
        obtain ⟨M, hM⟩ : ∃ M : List Int, M = 109 :: digs id.toNat := ⟨_, rfl⟩
        have HNa := hid (refNameX 109 id (strOfNums M) 0 (by rw [hn1, hM]) (by omega) w4)
        rw [← hM] at HPd hn2 hn3
        have HMo := hid hn2
        have HI3 := hid h3
        clear hM hn1 hn2 hn3 hid2 h3
        go_wp2_with fail
        refine HNa.out.mono ?_
        rintro e w5 ⟨rfl, b5⟩
        have V5 : Hid (Below w1.heap.size w1 w5) := up_trans V4.out b5
        have M5 := hid (M4.out.up b5)
        have y0 := blk_cell (blk_up B4.out b5) 0 _ rfl
        have y1 := blk_cell (blk_up B4.out b5) 1 _ rfl
        have y2 := blk_cell (blk_up B4.out b5) 2 _ rfl
        have y3 := blk_cell (blk_up B4.out b5) 3 _ rfl
        have HEd := hid (refEncE_any seq next [] ts none a3 0 0 n3 c3 w5 (Rws.nil 1 w5) M5.out)
        have hwe := (whole_enc HEv.out).1
        rw [encE_good hwe] at HEd
        have ho := edO_octet hwe
        have hl := edO_len hwe
        have HOl := hid (And.intro ho hl)
        have HX : Hid (edF seq next [] ts = frameOf 5 (edO seq next [] ts)) := rfl
        have HFo : Hid (∀ x ∈ edF seq next [] ts, 0 ≤ x ∧ x ≤ 255) := frame_octet 5 _ (by omega) (by omega) ho
        generalize edF seq next [] ts = F at *
        generalize edO seq next [] ts = X at *
        clear hwe HNa b5 M4 B4 V4 ho hl HEv
        go_wp2_with fail
        refine HEd.out.mono ?_
        rintro e w6 ⟨a6, n6, c6, rfl, O6, b6⟩
        have V6 : Hid (Below w1.heap.size w1 w6) := up_trans V5.out b6.out
        have h2 : Octs w6 (.slice a6 n6 c6) X := Octs.own O6.out HOl.out.1
        obtain ⟨a7, c7, e3, _⟩ := h2.slice
        injection e3 with e31 e32 e33
        subst e32
        have HF := hid (rput_good 5 a6 c6 X w6 h2 (by omega) (by omega) (by have := HOl.out.2; omega))
        clear h2 O6 b6 HEd y0 y1 y2 y3 M5 V5 e31 e33
        go_wp2_with fail
        refine HF.out.mono ?_
        rintro e w11 ⟨v8, rfl, o8, b8⟩
        obtain ⟨a8, n8, c8, e4, _⟩ := own_shape o8
        subst e4
        have V11 : Hid (Below w1.heap.size w1 w11) := up_trans V6.out b8
        have OF : Hid (Octs w11 (.slice a8 n8 c8) F) := by rw [HX.out]; exact Octs.own o8 (by rw [← HX.out]; exact HFo.out)
        clear o8 b8 HF V6
        have hpo := (frame_octet 4 (octets id) (by omega) (by have := (ptr_oct HI3.out).1; omega) (ptr_oct HI3.out).2)
        have HPo : Hid (∀ x ∈ ptrF id, 0 ≤ x ∧ x ≤ 255) := hpo
        have HPt : Hid (∀ W : World, Calls Tryz.prog 45 #[.int .i64 id] W fun e w' => ∃ a n c, e = .returned (.slice a n c) ∧ Hid (OwnB w' W.heap.size (.slice a n c) (ptrF id)) ∧ Hid (Below W.heap.size W w')) := fun W => refPtr_any id HI3.out W
        generalize ptrF id = P at *
        clear hpo
        have HSw : Hid (∀ W, Below w1.heap.size w1 W → StW W (.agg #[.int .i64 s.cap, .slice af nf cf, .slice an nn cn, .slice as' ns cs', .int .i64 s.next]) s) := fun W h => HS.out.up (up_trans U1.out h)
        have HLd : Hid (∀ (x : List Int), (∀ y ∈ x, 0 ≤ y ∧ y ≤ 255) → ∀ (a : Option Addr) (n c : Nat) (d : List Int) (W : World), Below w1.heap.size w1 W → Calls Tryz.prog 44 #[.agg #[.int .i64 s.cap, .slice af nf cf, .slice an nn cn, .slice as' ns cs', .int .i64 s.next], .string (strOfNums x), .slice a n c] W fun e w' => ∃ a' n' c', e = .returned (.slice a' n' c') ∧ Hid (OwnR w' W.heap.size 94 4 (.slice a' n' c') ((laidR (decide (x ∈ s.names.map (·.1))) x d (.slice a n c)).map arow)) ∧ Hid (Below W.heap.size W w')) := fun x hx a n c d W h => refLaid_any s x hx _ a n c d W (HSw.out W h) HC.out
        have HBL0 : Hid (begL s M F P = laidA (decide (M ∈ s.names.map (·.1))) M F ++ (laidA (decide (nxtL ∈ s.names.map (·.1))) nxtL P ++ [⟨6, [], [], []⟩, ⟨4, nxtL, curL, []⟩, ⟨6, [], [], []⟩])) := rfl
        obtain ⟨BL, hBL⟩ : ∃ BL, BL = begL s M F P := ⟨_, rfl⟩
        rw [← hBL] at HPd HBL0
        generalize s.names.map (·.1) = nm at *
        have HBL : Hid (laidA (decide (M ∈ nm)) M F ++ (laidA (decide (nxtL ∈ nm)) nxtL P ++ [⟨6, [], [], []⟩, ⟨4, nxtL, curL, []⟩, ⟨6, [], [], []⟩]) = BL) := hid HBL0.out.symm
        clear hBL HBL0
        have HB1 : Hid (((laidR (decide (M ∈ nm)) M F (.slice a8 n8 c8)).map arow).length ≤ 4) := laidR_len _ _ _ _
        have HQ1 : Hid (∀ W, Octs W (.slice a8 n8 c8) F → ∀ y ∈ laidR (decide (M ∈ nm)) M F (.slice a8 n8 c8), Octs W y.1 y.2.data) := fun W h => laidR_octs _ h
        have HJ : Hid (∀ vp, (laidR (decide (M ∈ nm)) M F (.slice a8 n8 c8) ++ (laidR (decide (nxtL ∈ nm)) nxtL P vp ++ endR)).map (·.2) = laidA (decide (M ∈ nm)) M F ++ (laidA (decide (nxtL ∈ nm)) nxtL P ++ [⟨6, [], [], []⟩, ⟨4, nxtL, curL, []⟩, ⟨6, [], [], []⟩])) := fun vp => beg_join
        have HL1a := hid (HLd.out M HMo.out a8 n8 c8 F w11.drew (up_dr V11.out))
        generalize laidR (decide (M ∈ nm)) M F (.slice a8 n8 c8) = L1 at *
        obtain ⟨L2, hL2⟩ : ∃ L2 : Value → List ARow, L2 = laidR (decide (nxtL ∈ nm)) nxtL P := ⟨_, rfl⟩
        have HB2 : Hid (∀ vp, ((L2 vp).map arow).length ≤ 4) := by rw [hL2]; exact fun vp => laidR_len _ _ _ _
        have HO2 : Hid (∀ a n c, ∀ cs ∈ (L2 (.slice a n c)).map arow, ∀ u ∈ cs, u.oneCell' = true) := by rw [hL2]; exact fun a n c => laidR_one _ _ _ _ _ _
        have HQ2 : Hid (∀ W vp, Octs W vp P → ∀ y ∈ L2 vp, Octs W y.1 y.2.data) := by rw [hL2]; exact fun W vp h => laidR_octs _ h
        have HL3a : Hid (∀ (a : Option Addr) (n c : Nat) (W : World), Below w1.heap.size w1 W → Calls Tryz.prog 44 #[.agg #[.int .i64 s.cap, .slice af nf cf, .slice an nn cn, .slice as' ns cs', .int .i64 s.next], .string { data := #[110, 101, 120, 116] }, .slice a n c] W fun e w' => ∃ a' n' c', e = .returned (.slice a' n' c') ∧ Hid (OwnR w' W.heap.size 94 4 (.slice a' n' c') ((L2 (.slice a n c)).map arow)) ∧ Hid (Below W.heap.size W w')) := by
          rw [hL2]
          exact fun a n c W h => HLd.out nxtL nxt_oct a n c P W h
        rw [← hL2] at HJ
        clear hL2 HLd
        generalize strOfNums M = SM at *
        obtain ⟨z0, z1, z2, z3, z4⟩ := HCS.out w11 V11.out
        have HCB : Hid (∀ W, Below w11.heap.size w11 W → W.cell? ⟨w.heap.size, 0, none⟩ = some (.int .i64 s.cap) ∧ W.cell? ⟨w.heap.size, 1, none⟩ = some (.slice af nf cf) ∧ W.cell? ⟨w.heap.size, 2, none⟩ = some (.slice an nn cn) ∧ W.cell? ⟨w.heap.size, 3, none⟩ = some (.slice as' ns cs') ∧ W.cell? ⟨w.heap.size, 4, none⟩ = some (.int .i64 s.next)) := fun W h => HCS.out W (up_trans V11.out h)
        have HVB : Hid (∀ W, Below w11.heap.size w11 W → Below w1.heap.size w1 W) := fun W h => up_trans V11.out h
        have HA1 : Hid (Calls Tryz.prog 44 #[.agg #[.int .i64 s.cap, .slice af nf cf, .slice an nn cn, .slice as' ns cs', .int .i64 s.next], .string SM, .slice a8 n8 c8] w11.drew fun e w' => ∃ a n c, e = .returned (.slice a n c) ∧ w'.cell? ⟨w.heap.size, 0, none⟩ = some (.int .i64 s.cap) ∧ w'.cell? ⟨w.heap.size, 1, none⟩ = some (.slice af nf cf) ∧ w'.cell? ⟨w.heap.size, 2, none⟩ = some (.slice an nn cn) ∧ w'.cell? ⟨w.heap.size, 3, none⟩ = some (.slice as' ns cs') ∧ w'.cell? ⟨w.heap.size, 4, none⟩ = some (.int .i64 s.next) ∧ Hid (OwnR w' w11.heap.size 94 4 (.slice a n c) (L1.map arow)) ∧ Hid (Below w11.heap.size w11 w')) := by
          refine HL1a.out.mono ?_
          rintro e w' ⟨a, n, c, rfl, oo, bb⟩
          have hb : Below w11.heap.size w11 w' := up_trans (up_dr (Below.refl _ _)) bb.out
          obtain ⟨r0, r1, r2, r3, r4⟩ := HCB.out _ hb
          exact ⟨a, n, c, rfl, r0, r1, r2, r3, r4, oo.out.mono (up_dr (Below.refl _ _)).size, hb⟩
        have HA2 : Hid (∀ (wx : World) (ax : Option Addr) (nx cx : Nat), OwnR wx w11.heap.size 94 4 (.slice ax nx cx) (L1.map arow) → Below w11.heap.size w11 wx → Calls Tryz.prog 45 #[.int .i64 id] wx fun e w' => ∃ a n c, e = .returned (.slice a n c) ∧ w'.cell? ⟨w.heap.size, 0, none⟩ = some (.int .i64 s.cap) ∧ w'.cell? ⟨w.heap.size, 1, none⟩ = some (.slice af nf cf) ∧ w'.cell? ⟨w.heap.size, 2, none⟩ = some (.slice an nn cn) ∧ w'.cell? ⟨w.heap.size, 3, none⟩ = some (.slice as' ns cs') ∧ w'.cell? ⟨w.heap.size, 4, none⟩ = some (.int .i64 s.next) ∧ Hid (OwnR w' w11.heap.size 94 4 (.slice ax nx cx) (L1.map arow)) ∧ Hid (OwnB w' w11.heap.size (.slice a n c) P) ∧ Hid (Below w11.heap.size w11 w')) := by
          intro wx ax nx cx ho hu
          refine (HPt.out wx).mono ?_
          rintro e w' ⟨a, n, c, rfl, oo, bb⟩
          have hb : Below w11.heap.size w11 w' := up_trans hu bb.out
          obtain ⟨r0, r1, r2, r3, r4⟩ := HCB.out _ hb
          exact ⟨a, n, c, rfl, r0, r1, r2, r3, r4, ho.up bb.out, ownB_mono oo.out hu.size, hb⟩
        have HA3 : Hid (∀ (wx : World) (ax : Option Addr) (nx cx : Nat) (ap : Option Addr) (np cp : Nat), OwnR wx w11.heap.size 94 4 (.slice ax nx cx) (L1.map arow) → OwnB wx w11.heap.size (.slice ap np cp) P → Below w11.heap.size w11 wx → Calls Tryz.prog 44 #[.agg #[.int .i64 s.cap, .slice af nf cf, .slice an nn cn, .slice as' ns cs', .int .i64 s.next], .string { data := #[110, 101, 120, 116] }, .slice ap np cp] wx fun e w' => ∃ a n c, e = .returned (.slice a n c) ∧ w'.cell? ⟨w.heap.size, 0, none⟩ = some (.int .i64 s.cap) ∧ w'.cell? ⟨w.heap.size, 1, none⟩ = some (.slice af nf cf) ∧ w'.cell? ⟨w.heap.size, 2, none⟩ = some (.slice an nn cn) ∧ w'.cell? ⟨w.heap.size, 3, none⟩ = some (.slice as' ns cs') ∧ w'.cell? ⟨w.heap.size, 4, none⟩ = some (.int .i64 s.next) ∧ Hid (OwnR w' w11.heap.size 94 4 (.slice ax nx cx) (L1.map arow)) ∧ Hid (Rws 4 w' (.slice a n c) ((L2 (.slice ap np cp)).map arow)) ∧ Hid (w11.heap.size ≤ w'.heap.size) ∧ Hid (∀ w5, w'.grownBy w5 (Value.slice ax nx cx).ownBlock → (w5.cell? ⟨w.heap.size, 0, none⟩ = some (.int .i64 s.cap) ∧ w5.cell? ⟨w.heap.size, 1, none⟩ = some (.slice af nf cf) ∧ w5.cell? ⟨w.heap.size, 2, none⟩ = some (.slice an nn cn) ∧ w5.cell? ⟨w.heap.size, 3, none⟩ = some (.slice as' ns cs') ∧ w5.cell? ⟨w.heap.size, 4, none⟩ = some (.int .i64 s.next)) ∧ OwnB w5 w11.heap.size (.slice ap np cp) P ∧ Below w11.heap.size w11 w5)) := by
          intro wx ax nx cx ap np cp ho hp hu
          refine (HL3a.out ap np cp wx (HVB.out _ hu)).mono ?_
          rintro e w' ⟨a, n, c, rfl, oo, bb⟩
          have hb : Below w11.heap.size w11 w' := up_trans hu bb.out
          have ho' := ho.up bb.out
          have hp' : OwnB w' w11.heap.size (.slice ap np cp) P := own_up hp bb.out
          obtain ⟨r0, r1, r2, r3, r4⟩ := HCB.out _ hb
          refine ⟨a, n, c, rfl, r0, r1, r2, r3, r4, ho', Rws.own oo.out, hb.size, fun w5 g5 => ?_⟩
          have hu5 : Below w11.heap.size w11 w5 := own_grown ho' hb hb.size g5
          exact ⟨HCB.out _ hu5, World.ownsRow.kept hp' g5 (own_own_ne hp' ho'.2 (by decide)), hu5⟩
        have HBn : Hid (∀ vp, (((L1.map arow).length + ((L2 vp).map arow).length) + ((L1.map arow).length + ((L2 vp).map arow).length) / 4 + 192) * 64 ≤ 281474976710656 ∧ (L1.map arow).length + ((L2 vp).map arow).length ≤ maxLen) := by
          intro vp
          have := HB1.out
          have := HB2.out vp
          unfold maxLen
          omega
        clear HL1a HL3a HPt
        go_wp2_with fail
        go_region_held3 (fun w' => w'.cell? ⟨w.heap.size, 0, none⟩ = some (.int .i64 s.cap) ∧ w'.cell? ⟨w.heap.size, 1, none⟩ = some (.slice af nf cf) ∧ w'.cell? ⟨w.heap.size, 2, none⟩ = some (.slice an nn cn) ∧ w'.cell? ⟨w.heap.size, 3, none⟩ = some (.slice as' ns cs') ∧ w'.cell? ⟨w.heap.size, 4, none⟩ = some (.int .i64 s.next)) (first | with_reducible exact ⟨x0, x1, x2, x3, x4⟩ | with_reducible exact ⟨u0, u1, u2, u3, u4⟩ | with_reducible exact ⟨t0, t1, t2, t3, t4⟩ | with_reducible exact ⟨y0, y1, y2, y3, y4⟩ | with_reducible exact ⟨z0, z1, z2, z3, z4⟩ | (simp [go_sem, z0, z1, z2, z3, z4]; done)) (first
          | (go_at_call 44; with_reducible refine HA1.out.mono ?_; rintro e wa ⟨ax, nx, cx, rfl, y0, y1, y2, y3, y4, Oa, Va⟩)
          | (go_at_call 45; with_reducible refine (HA2.out _ _ _ _ Oa.out Va.out).mono ?_; rintro e wb ⟨ap, np, cp, rfl, t0, t1, t2, t3, t4, Ob, Pb, Vb⟩)
          | (go_at_call 44; with_reducible refine (HA3.out _ _ _ _ _ _ _ Ob.out Pb.out Vb.out).mono ?_; rintro e wc ⟨aq, nq, cq, rfl, u0, u1, u2, u3, u4, Oc, Rc, Sc, Fc⟩)
          | (refine step_append_rows _ (by rfl) _ _ 44 94 _ 4 64 (by rfl) Tryz.underlying44 Tryz.infoA (by rfl) (by decide) w11.heap.size (.slice ax nx cx) (L1.map arow) (by rfl) Oc.out (.slice aq nq cq) ((L2 (.slice ap np cp)).map arow) (by rfl) Rc.out (HO2.out _ _ _) (HBn.out _).1 (HBn.out _).2 Sc.out ?_; intro v10 w10 o10 g10; obtain ⟨⟨x0, x1, x2, x3, x4⟩, Pd, Vd⟩ := Fc.out _ g10; obtain ⟨a10, n10, c10, e10, o10⟩ := rows_shapeE o10; subst e10))
        all_goals
          have O10 : Hid (OwnR w10 w11.heap.size 94 4 (.slice a10 n10 c10) (L1.map arow ++ (L2 (.slice ap np cp)).map arow)) := o10
          have V10 : Hid (Below w11.heap.size w11 w10) := Vd
          have P10 : Hid (OwnB w10 w11.heap.size (.slice ap np cp) P) := Pd
          clear o10 g10 Vd Pd Oa Va Ob Pb Vb Oc Rc Sc Fc x0 x1 x2 x3 x4 u0 u1 u2 u3 u4 t0 t1 t2 t3 t4 y0 y1 y2 y3 y4 z0 z1 z2 z3 z4 HA1 HA2 HA3
          have HBe : Hid ((((L1.map arow ++ (L2 (.slice ap np cp)).map arow).length + 3) + ((L1.map arow ++ (L2 (.slice ap np cp)).map arow).length + 3) / 4 + 192) * 64 ≤ 281474976710656 ∧ (L1.map arow ++ (L2 (.slice ap np cp)).map arow).length + 3 ≤ maxLen) := by
            have := HB1.out
            have := HB2.out (.slice ap np cp)
            rw [List.length_append]
            unfold Hid maxLen
            omega
          have HRe : Hid (Rws 4 (w10.alloc (.cells #[.int .i64 6, .string ⟨#[]⟩, .string ⟨#[]⟩, .slice none 0 0, .int .i64 4, .string ⟨#[110, 101, 120, 116]⟩, .string ⟨#[67, 85, 82, 82, 69, 78, 84]⟩, .slice none 0 0, .int .i64 6, .string ⟨#[]⟩, .string ⟨#[]⟩, .slice none 0 0] 94)) (.slice (some ⟨w10.heap.size, 0, none⟩) 3 3) (endR.map arow)) := Rws.made (sz := 4) w10 94 (endR.map arow) (by intro cs hcs; obtain ⟨y, _, rfl⟩ := List.mem_map.1 hcs; rfl) (by simp [endR, maxLen])
          have HOe : Hid (∀ cs ∈ endR.map arow, ∀ u ∈ cs, u.oneCell' = true) := by
            intro cs hcs u hu
            simp [endR, arow, nilV] at hcs
            rcases hcs with rfl | rfl | rfl <;> (simp at hu; rcases hu with rfl | rfl | rfl | rfl <;> rfl)
          have V10a : Hid (Below w11.heap.size w11 (w10.alloc (.cells #[.int .i64 6, .string ⟨#[]⟩, .string ⟨#[]⟩, .slice none 0 0, .int .i64 4, .string ⟨#[110, 101, 120, 116]⟩, .string ⟨#[67, 85, 82, 82, 69, 78, 84]⟩, .slice none 0 0, .int .i64 6, .string ⟨#[]⟩, .string ⟨#[]⟩, .slice none 0 0] 94))) := up_al V10.out _
          have O10a : Hid (OwnR (w10.alloc (.cells #[.int .i64 6, .string ⟨#[]⟩, .string ⟨#[]⟩, .slice none 0 0, .int .i64 4, .string ⟨#[110, 101, 120, 116]⟩, .string ⟨#[67, 85, 82, 82, 69, 78, 84]⟩, .slice none 0 0, .int .i64 6, .string ⟨#[]⟩, .string ⟨#[]⟩, .slice none 0 0] 94)) w11.heap.size 94 4 (.slice a10 n10 c10) (L1.map arow ++ (L2 (.slice ap np cp)).map arow)) := O10.out.up (up_alloc _ _)
          have P10a : Hid (OwnB (w10.alloc (.cells #[.int .i64 6, .string ⟨#[]⟩, .string ⟨#[]⟩, .slice none 0 0, .int .i64 4, .string ⟨#[110, 101, 120, 116]⟩, .string ⟨#[67, 85, 82, 82, 69, 78, 84]⟩, .slice none 0 0, .int .i64 6, .string ⟨#[]⟩, .string ⟨#[]⟩, .slice none 0 0] 94)) w11.heap.size (.slice ap np cp) P) := own_up P10.out (up_alloc _ _)
          have hel : (endR.map arow).length = 3 := rfl
          rw [← hel] at HBe
          clear hel
          obtain ⟨L3, hL3⟩ : ∃ L3, L3 = endR.map arow := ⟨_, rfl⟩
          rw [← hL3] at HBe HRe HOe
          have HLend : Hid (endR.map arow = L3) := hid hL3.symm
          clear hL3
          generalize hL12 : L1.map arow ++ (L2 (.slice ap np cp)).map arow = L12 at *
          have HL12 := hid hL12
          clear hL12
          go_wp2_with (at_builtin; refine wpList_append_rows _ rfl _ _ 44 94 _ 4 64 rfl Tryz.underlying44 Tryz.infoA rfl (by decide) w11.heap.size (.slice a10 n10 c10) L12 rfl O10a.out (.slice (some ⟨w10.heap.size, 0, none⟩) 3 3) L3 rfl HRe.out HOe.out HBe.out.1 HBe.out.2 V10a.out.size ?_; intro v11 w12 o11 g11)
          have V12 : Hid (Below w11.heap.size w11 w12) := own_grown O10a.out V10a.out V10a.out.size g11
          have P12 : Hid (OwnB w12 w11.heap.size (.slice ap np cp) P) := World.ownsRow.kept P10a.out g11 (own_own_ne P10a.out O10a.out.2 (by decide))
          obtain ⟨a11, n11, c11, e11, O11⟩ := rows_shapeE o11
          subst e11
          clear o11 g11
          go_ret2
          rw [HPd.out]
          refine ⟨_, _, _, rfl, ?_, up_trans U1.out (HVB.out _ V12.out)⟩
          refine ⟨L1 ++ (L2 (.slice ap np cp) ++ endR), ?_, ?_, ?_⟩
          · rw [HJ.out]
            exact HBL.out
          · rw [List.map_append, List.map_append, ← List.append_assoc]
            rw [HLend.out, HL12.out]
            exact Rws.own O11.out
          · intro y hy
            rcases List.mem_append.1 hy with q | q
            · exact HQ1.out _ (OF.out.up V12.out) y q
            · rcases List.mem_append.1 q with q | q
              · exact HQ2.out _ _ (Octs.own P12.out HPo.out) y q
              · have hn : Octs w12 nilV [] := ⟨(by simp), .inl ⟨rfl, _, _, rfl, fun _ => rfl⟩⟩
                unfold endR at q
                simp at q
                rcases q with rfl | rfl | rfl <;> exact hn
      · have hif : idOk id = false := by simpa using hid2
        rw [if_neg hid2] at HPd
        have hne : nameN 109 id = ([], 4) := by unfold nameN; rw [hif]; rfl
        have HNa := hid (refNameX 109 id { data := #[] } 4 (by rw [hne]; rfl) (by omega) w4)
        clear hid2 hif hne
        go_wp2_with fail
        refine HNa.out.mono ?_
        rintro e w5 ⟨rfl, b5⟩
        have U5 : Hid (Below w.heap.size w w5) := up_trans U1.out (up_trans V4.out b5)
        clear b5 HNa
        go_wp2_with fail
        go_ret2
        rw [HPd.out]
        exact ⟨_, _, _, rfl, ActR.nil _, U5⟩
    · rw [if_neg hev] at HPd
      have HWo : Hid (Calls Tryz.prog 40 #[.agg #[.slice va vn vc, .int .i64 seq, .int .i64 next]] w2 fun e w' => e = .returned (.tuple #[.agg #[.slice none 0 0, .slice none 0 0, .int .i64 0, .int .i64 0], .int .i64 9]) ∧ Hid (Below w2.heap.size w2 w')) := by
        refine HW2.out.mono ?_
        intro e w' h
        unfold WhoR at h
        rw [if_neg hev] at h
        exact h
      clear HW2 hev
      go_wp2_with fail
      refine HWo.out.mono ?_
      rintro e w3 ⟨rfl, b3⟩
      have U3 : Hid (Below w.heap.size w w3) := up_trans U2.out b3.out
      clear b3 HWo z0 z1 z2
      go_wp2_with fail
      go_ret2
      rw [HPd.out]
      exact ⟨_, _, _, rfl, ActR.nil _, up_al U3.out _⟩
end Go.Proofs.YtnchjlimkgbfpaaGreatDoor
