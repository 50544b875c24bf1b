/- The texts OBeg, OLdr, in this order. -/
import Derived.Test.YtnchjlimkgbfpaaGreatDoorZ26
import Derived.Test.YtnchjlimkgbfpaaGreatDoorZ04

namespace Go.Proofs.YtnchjlimkgbfpaaGreatDoor
open Go.RowKit
set_option linter.unusedVariables false
set_option linter.unusedSimpArgs false
set_option maxRecDepth 20000
def begL (s : St) (M F P : List Int) : List Ac := laidA (decide (M ∈ s.names.map (·.1))) M F ++ (laidA (decide (nxtL ∈ s.names.map (·.1))) nxtL P ++ [⟨6, [], [], []⟩, ⟨4, nxtL, curL, []⟩, ⟨6, [], [], []⟩])
def begP (s : St) (ts : List Me) (sq nx id : Int) : List Ac × Int :=
  if checkP s then (if errV ts sq nx = 0 then (if idOk id then (begL s (nameN 109 id).1 (edF sq nx [] ts) (ptrF id), 0) else ([], 4)) else ([], 9)) else ([], 9)
def ActO (w : World) (base : Nat) (v : Value) (l : List Ac) : Prop := ∃ m : List ARow, m.map (·.2) = l ∧ OwnR w base 94 4 v (m.map arow) ∧ ∀ y ∈ m, Octs w y.1 y.2.data
theorem ActO.up {w w' : World} {base : Nat} {v : Value} {l : List Ac} (h : ActO w base v l) (hb : Below w.heap.size w w') : ActO w' base v l := by
  obtain ⟨m, h1, h2, h3⟩ := h
  exact ⟨m, h1, h2.up hb, fun y hy => (h3 y hy).up hb⟩
theorem ActO.mono {w : World} {base base' : Nat} {v : Value} {l : List Ac} (h : ActO w base v l) (hb : base' ≤ base) : ActO w base' v l := by
  obtain ⟨m, h1, h2, h3⟩ := h
  exact ⟨m, h1, h2.mono hb, h3⟩
theorem ActO.nil (w : World) (base : Nat) : ActO w base (.slice none 0 0) [] := ⟨[], rfl, OwnR.nil _ _ _ _, by simp⟩
theorem ActO.len {w : World} {base : Nat} {v : Value} {l : List Ac} (h : ActO w base v l) : ∃ a c, v = .slice a l.length c := by
  obtain ⟨m, h1, h2, h3⟩ := h
  obtain ⟨a, c, e, _, _⟩ := (Rws.own h2).len
  rw [List.length_map] at e
  exact ⟨a, c, by rw [e, ← h1, List.length_map]⟩
theorem laidR_one (q : Bool) (x d : List Int) (a : Option Addr) (n c : Nat) : ∀ cs ∈ (laidR q x d (.slice a n c)).map arow, ∀ u ∈ cs, u.oneCell' = true := by
  intro cs hcs u hu
  obtain ⟨y, hy, rfl⟩ := List.mem_map.1 hcs
  have hv : y.1 = nilV ∨ y.1 = .slice a n c := by
    unfold laidR at hy
    cases q <;> simp at hy <;> rcases hy with rfl | rfl | rfl | rfl <;> simp
  unfold arow at hu
  simp only [List.mem_cons, List.mem_nil_iff, or_false] at hu
  rcases hu with rfl | rfl | rfl | rfl
  · rfl
  · rfl
  · rfl
  · rcases hv with h | h <;> rw [h] <;> rfl
theorem laidR_len (q : Bool) (x d : List Int) (v : Value) : ((laidR q x d v).map arow).length ≤ 4 := by cases q <;> simp [laidR]
theorem laidR_octs {w : World} {x d : List Int} {v : Value} (q : Bool) (h : Octs w v d) : ∀ y ∈ laidR q x d v, Octs w y.1 y.2.data := by
  intro y hy
  have hn : Octs w nilV [] := ⟨(by simp), .inl ⟨rfl, _, _, rfl, fun _ => rfl⟩⟩
  unfold laidR at hy
  cases q <;> simp at hy
  · rcases hy with rfl | rfl | rfl
    · exact hn
    · exact h
    · exact hn
  · rcases hy with rfl | rfl | rfl | rfl
    · exact hn
    · exact hn
    · exact h
    · exact hn
theorem own_grown {w x W : World} {B : Nat} {e : TypeId} {sz : Nat} {v : Value} {css : List (List Value)} (h : OwnR x B e sz v css) (hb : Below B w x) (hs : B ≤ x.heap.size) (hg : x.grownBy W v.ownBlock) : Below B w W := by
  have hB : ∀ k, v.ownBlock = some k → B ≤ k := by
    intro g hk
    rcases h.2.2 with ⟨q, _⟩ | ⟨g', cap', cur, q, hbg, _⟩
    · rw [q] at hk; simp [Value.ownBlock] at hk
    · rw [q] at hk; simp [Value.ownBlock] at hk; omega
  exact hb.grown hg hs hB
def endR : List ARow := [(nilV, ⟨6, [], [], []⟩), (nilV, ⟨4, nxtL, curL, []⟩), (nilV, ⟨6, [], [], []⟩)]
theorem list_namesO {s : St} {v : Value} {w : World} (hv : StW w v s) : ∀ x ∈ s.names.map (·.1), ∀ y ∈ x, 0 ≤ y ∧ y ≤ 255 := by
  obtain ⟨vf, vn, vs, _, _, hn, _⟩ := hv
  intro x hx
  obtain ⟨p, hp, rfl⟩ := List.mem_map.1 hx
  exact (hn.1 p hp).1
theorem nxt_oct : ∀ y ∈ nxtL, 0 ≤ y ∧ y ≤ 255 := by unfold nxtL; intro y hy; simp at hy; omega
theorem nameN_octO {id : Int} (h : idOk id = true) : nameN 109 id = (109 :: digs id.toNat, 0) ∧ (∀ y ∈ (109 :: digs id.toNat : List Int), 0 ≤ y ∧ y ≤ 255) ∧ (109 :: digs id.toNat : List Int).length ≤ 11 := by
  have h3 : 1 ≤ id ∧ id ≤ 2147483647 := by simpa [idOk] using h
  have hl := digs_len 10 id.toNat (by omega)
  refine ⟨by unfold nameN; rw [h]; rfl, fun y hy => ?_, by simp only [List.length_cons]; omega⟩
  rcases List.mem_cons.1 hy with rfl | hy
  · omega
  · exact digs_oct _ y hy
theorem beg_join {l : List (List Int)} {M F P : List Int} {va vp : Value} : (laidR (decide (M ∈ l)) M F va ++ (laidR (decide (nxtL ∈ l)) nxtL P vp ++ endR)).map (·.2) = laidA (decide (M ∈ l)) M F ++ (laidA (decide (nxtL ∈ l)) nxtL P ++ [⟨6, [], [], []⟩, ⟨4, nxtL, curL, []⟩, ⟨6, [], [], []⟩]) := by
  rw [List.map_append, List.map_append, laidR_plain, laidR_plain]
  rfl
set_option maxHeartbeats 4000000 in
theorem begin_any (s : St) (v : Value) (ts : List Me) (seq next id : Int) (va : Option Addr) (vn vc : Nat) (w : World) (hv : StW w v s) (hm : MetsR w (.slice va vn vc) ts) (hl : s.names.length + s.safe.length ≤ 9223372036854775807) (he : EnvL w) :
    Calls Tryz.prog 10 #[v, .agg #[.slice va vn vc, .int .i64 seq, .int .i64 next], .int .i64 id] w fun e w' => ∃ a n c, e = .returned (.tuple #[.slice a n c, .int .i64 (begP s ts seq next id).2]) ∧ Hid (ActO w' w.heap.size (.slice a n c) (begP s ts seq next id).1) ∧ Hid (Below w.heap.size w w') := by
  have HNm := hid (list_namesO hv)
  obtain ⟨af, nf, cf, an, nn, cn, as', ns, cs', ev⟩ := hv.shape
  subst ev
  have HS : Hid (StW w (.agg #[.int .i64 s.cap, .slice af nf cf, .slice an nn cn, .slice as' ns cs', .int .i64 s.next]) s) := hv
  have HM : Hid (MetsR w (.slice va vn vc) ts) := hm
  have HE : Hid (EnvL w) := he
  obtain ⟨w1, hw1⟩ : ∃ w1, w1 = (w.alloc (.cells #[.int .i64 s.cap, .slice af nf cf, .slice an nn cn, .slice as' ns cs', .int .i64 s.next] 35)).alloc (.cells #[.slice va vn vc, .int .i64 seq, .int .i64 next] 39) := ⟨_, rfl⟩
  have HW1 : Hid ((w.alloc (.cells #[.int .i64 s.cap, .slice af nf cf, .slice an nn cn, .slice as' ns cs', .int .i64 s.next] 35)).alloc (.cells #[.slice va vn vc, .int .i64 seq, .int .i64 next] 39) = w1) := hid hw1.symm
  have U1 : Hid (Below w.heap.size w w1) := by rw [hw1]; exact up_al (up_alloc _ _) _
  have B1 : Hid (w1.heap[w.heap.size]? = some (.cells #[.int .i64 s.cap, .slice af nf cf, .slice an nn cn, .slice as' ns cs', .int .i64 s.next] 35)) := by rw [hw1]; exact blk_up (blk_new _ _) (up_alloc _ _)
  have B2 : Hid (w1.heap[w.heap.size + 1]? = some (.cells #[.slice va vn vc, .int .i64 seq, .int .i64 next] 39)) := by
    rw [hw1]
    have := blk_new (w.alloc (.cells #[.int .i64 s.cap, .slice af nf cf, .slice an nn cn, .slice as' ns cs', .int .i64 s.next] 35)) (.cells #[.slice va vn vc, .int .i64 seq, .int .i64 next] 39)
    rw [show (w.alloc (.cells #[.int .i64 s.cap, .slice af nf cf, .slice an nn cn, .slice as' ns cs', .int .i64 s.next] 35)).heap.size = w.heap.size + 1 by simp] at this
    exact this
  have HLs := hid (list_any s _ w1 (HS.out.up U1.out) hl)
  have HWh : Hid (∀ W, Below w.heap.size w W → Calls Tryz.prog 34 #[.agg #[.slice va vn vc, .int .i64 seq, .int .i64 next]] W (WhoE W ts seq next)) := fun W hW => whole_any ts seq next va vn vc W (HM.out.up hW)
  have HPd : Hid (begP s ts seq next id = if checkP s then (if errV ts seq next = 0 then (if idOk id then (begL s (nameN 109 id).1 (edF seq next [] ts) (ptrF id), 0) else ([], 4)) else ([], 9)) else ([], 9)) := rfl
  have HLd : Hid (listP s = if checkP s then (s.names.map (·.1), 0) else ([], 9)) := rfl
  have x0 := blk_cell B1.out 0 _ rfl
  have x1 := blk_cell B1.out 1 _ rfl
  have x2 := blk_cell B1.out 2 _ rfl
  have x3 := blk_cell B1.out 3 _ rfl
  have x4 := blk_cell B1.out 4 _ rfl
  clear hv hm he hw1
  go_enter Tryz.func10, Tryz.ntmps10
  go_upto_region 1 with fail
  rw [HW1.out]
  cases hchk : checkP s with
  | false =>
    rw [hchk] at HPd HLd
    simp only [Bool.false_eq_true, if_false] at HPd HLd
    rw [HLd.out] at HLs
    clear HLd hchk
    go_wp2_with fail
    refine HLs.out.mono ?_
    rintro e w2 ⟨v2, rfl, o2, b2⟩
    have U2 : Hid (Below w.heap.size w w2) := up_trans U1.out b2
    clear o2 b2 HLs x0 x1 x2 x3 x4
    go_wp2_with fail
    go_ret2
    rw [HPd.out]
    exact ⟨_, _, _, rfl, ActO.nil _ _, U2⟩
  | true =>
    rw [hchk] at HPd HLd
    simp only [if_true] at HPd HLd
    rw [HLd.out] at HLs
    simp only at HLs
    clear HLd hchk
    go_wp2_with fail
    refine HLs.out.mono ?_
    rintro e w2 ⟨v2, rfl, o2, b2⟩
    have U2 : Hid (Below w.heap.size w w2) := up_trans U1.out b2
    have R2 : Hid (Rws 1 w2 v2 ((s.names.map (·.1)).map srow)) := Rws.own o2
    obtain ⟨a2, c2, e2, -, -⟩ := (Rws.own o2).len
    obtain ⟨n2, hn2⟩ : ∃ n2, n2 = (List.map srow (s.names.map (·.1))).length := ⟨_, rfl⟩
    rw [← hn2] at e2
    subst e2
    clear hn2
    have z0 := blk_cell (blk_up B2.out b2) 0 _ rfl
    have z1 := blk_cell (blk_up B2.out b2) 1 _ rfl
    have z2 := blk_cell (blk_up B2.out b2) 2 _ rfl
    have HW2 := hid (HWh.out w2 U2.out)
    clear o2 b2 HLs x0 x1 x2 x3 x4 HWh
    by_cases hev : errV ts seq next = 0
    · rw [if_pos hev] at HPd
      have HEv := hid (errV_zero.1 hev)
      have HWo : Hid (Calls Tryz.prog 34 #[.agg #[.slice va vn vc, .int .i64 seq, .int .i64 next]] w2 fun e w' => ∃ a n c, e = .returned (.tuple #[.agg #[.slice none 0 0, .slice a n c, .int .i64 seq, .int .i64 next], .int .i64 0]) ∧ Hid (MetsR w' (.slice a n c) ts) ∧ Hid (Below w2.heap.size w2 w')) := by
        refine HW2.out.mono ?_
        intro e w' h
        unfold WhoE at h
        rw [if_pos hev] at h
        obtain ⟨a, n, c, rfl, o, b⟩ := h
        exact ⟨a, n, c, rfl, Rws.own o, b⟩
      clear HW2 hev
      go_wp2_with fail
      refine HWo.out.mono ?_
      rintro e w3 ⟨a3, n3, c3, rfl, M3, b3⟩
      have U3 : Hid (Below w.heap.size w w3) := up_trans U2.out b3.out
      have R3 := hid (R2.out.up b3.out)
      obtain ⟨w4, hw4⟩ : ∃ w4, w4 = w3.alloc (.cells #[.slice none 0 0, .slice a3 n3 c3, .int .i64 seq, .int .i64 next] 42) := ⟨_, rfl⟩
      have HW4 : Hid (w3.alloc (.cells #[.slice none 0 0, .slice a3 n3 c3, .int .i64 seq, .int .i64 next] 42) = w4) := hid hw4.symm
      have U4 : Hid (Below w.heap.size w w4) := by rw [hw4]; exact up_al U3.out _
      have V4 : Hid (Below w3.heap.size w3 w4) := by rw [hw4]; exact up_alloc _ _
      have B4 : Hid (w4.heap[w3.heap.size]? = some (.cells #[.slice none 0 0, .slice a3 n3 c3, .int .i64 seq, .int .i64 next] 42)) := by rw [hw4]; exact blk_new _ _
      have M4 := hid (M3.out.up V4.out)
      have R4 := hid (R3.out.up V4.out)
      clear hw4 M3 b3 HWo z0 z1 z2 R2 R3 B1 B2
      go_upto_region 7 with fail
      rw [HW4.out]
      clear HW4
      by_cases hid2 : idOk id = true
      · rw [if_pos hid2] at HPd
        obtain ⟨hn1, hn2, hn3⟩ := nameN_octO hid2
        rw [hn1] at HPd
        have h3 : 1 ≤ id ∧ id ≤ 2147483647 := by simpa [idOk] using hid2
        obtain ⟨M, hM⟩ : ∃ M : List Int, M = 109 :: digs id.toNat := ⟨_, rfl⟩
        have HNa := hid (nameX 109 id (strOfNums M) 0 (by rw [hn1, hM]) (by omega) w4 (HE.out.up U4.out).1)
        rw [← hM] at HPd hn2 hn3
        have HMo := hid hn2
        have HI3 := hid h3
        clear hM hn1 hn2 hn3 hid2 h3
        go_wp2_with fail
        refine HNa.out.mono ?_
        rintro e w5 ⟨rfl, b5⟩
        have U5 : Hid (Below w.heap.size w w5) := up_trans U4.out b5
        have M5 := hid (M4.out.up b5)
        have R5 := hid (R4.out.up b5)
        have y0 := blk_cell (blk_up B4.out b5) 0 _ rfl
        have y1 := blk_cell (blk_up B4.out b5) 1 _ rfl
        have y2 := blk_cell (blk_up B4.out b5) 2 _ rfl
        have y3 := blk_cell (blk_up B4.out b5) 3 _ rfl
        have HEd := hid (edOct_any seq next [] ts none a3 0 0 n3 c3 w5 (Rws.nil 1 w5) M5.out)
        have hwe := whole_enc HEv.out
        have hep : edP seq next [] ts = (edF seq next [] ts, 0) := by unfold edP; rw [if_pos hwe.1]
        have hfo : ∀ x ∈ edF seq next [] ts, 0 ≤ x ∧ x ≤ 255 := by have := edP_oct seq next [] ts; rw [hep] at this; exact this
        rw [hep] at HEd
        simp only at HEd HPd
        have HFo := hid hfo
        generalize edF seq next [] ts = F at *
        clear hwe hep hfo HNa b5 M4 R4 B4 U4 V4
        go_wp2_with fail
        refine HEd.out.mono ?_
        rintro e w6 ⟨a6, n6, c6, rfl, o6, b6⟩
        have U6 : Hid (Below w.heap.size w w6) := up_trans U5.out b6.out
        have R6 := hid (R5.out.up b6.out)
        have O6 : Hid (Octs w6 (.slice a6 n6 c6) F) := Octs.own o6.out HFo.out
        have HCu := hid (curOct_any id HI3.out w6)
        have hpo := (frame_octet 4 (octets id) (by omega) (by have := (ptr_oct HI3.out).1; omega) (ptr_oct HI3.out).2)
        have HPo : Hid (∀ x ∈ ptrF id, 0 ≤ x ∧ x ≤ 255) := hpo
        clear hpo o6 b6 HEd y0 y1 y2 y3 M5 R5
        generalize ptrF id = P at *
        go_wp2_with fail
        refine HCu.out.mono ?_
        rintro e w7 ⟨a7, n7, c7, rfl, o7, b7⟩
        have U7 : Hid (Below w.heap.size w w7) := up_trans U6.out b7.out
        have R7 := hid (R6.out.up b7.out)
        have O7a : Hid (Octs w7 (.slice a6 n6 c6) F) := O6.out.up b7.out
        have O7b : Hid (Octs w7 (.slice a7 n7 c7) P) := Octs.own o7.out HPo.out
        clear o7 b7 HCu R6 O6
        have HBL0 : Hid (begL s M F P = laidA (decide (M ∈ s.names.map (·.1))) M F ++ (laidA (decide (nxtL ∈ s.names.map (·.1))) nxtL P ++ [⟨6, [], [], []⟩, ⟨4, nxtL, curL, []⟩, ⟨6, [], [], []⟩])) := rfl
        obtain ⟨BL, hBL⟩ : ∃ BL, BL = begL s M F P := ⟨_, rfl⟩
        rw [← hBL] at HPd HBL0
        generalize s.names.map (·.1) = nm at *
        have HBL : Hid (laidA (decide (M ∈ nm)) M F ++ (laidA (decide (nxtL ∈ nm)) nxtL P ++ [⟨6, [], [], []⟩, ⟨4, nxtL, curL, []⟩, ⟨6, [], [], []⟩]) = BL) := hid HBL0.out.symm
        clear hBL HBL0
        have HL1 := hid (laid_any nm HNm.out M HMo.out (.slice a2 n2 c2) a6 n6 c6 F w7 R7.out)
        go_wp2_with fail
        refine HL1.out.mono ?_
        rintro e w8 ⟨a8, n8, c8, rfl, o8, b8⟩
        have R8 := hid (R7.out.up b8.out)
        have HL2 : Hid (Calls Tryz.prog 38 #[.slice a2 n2 c2, .string { data := #[110, 101, 120, 116] }, .slice a7 n7 c7] w8 fun e w' => ∃ a' n' c', e = .returned (.slice a' n' c') ∧ Hid (OwnR w' w8.heap.size 94 4 (.slice a' n' c') ((laidR (decide (nxtL ∈ nm)) nxtL P (.slice a7 n7 c7)).map arow)) ∧ Hid (Below w8.heap.size w8 w')) := laid_any nm HNm.out nxtL nxt_oct (.slice a2 n2 c2) a7 n7 c7 P w8 R8.out
        have V8 := hid b8.out
        have O8 := hid o8.out
        have HB1 : Hid (((laidR (decide (M ∈ nm)) M F (.slice a6 n6 c6)).map arow).length ≤ 4) := laidR_len _ _ _ _
        have HB2 : Hid (((laidR (decide (nxtL ∈ nm)) nxtL P (.slice a7 n7 c7)).map arow).length ≤ 4) := laidR_len _ _ _ _
        have HO2 : Hid (∀ cs ∈ (laidR (decide (nxtL ∈ nm)) nxtL P (.slice a7 n7 c7)).map arow, ∀ u ∈ cs, u.oneCell' = true) := laidR_one _ _ _ _ _ _
        have HQ1 : Hid (∀ W, Octs W (.slice a6 n6 c6) F → ∀ y ∈ laidR (decide (M ∈ nm)) M F (.slice a6 n6 c6), Octs W y.1 y.2.data) := fun W h => laidR_octs _ h
        have HQ2 : Hid (∀ W, Octs W (.slice a7 n7 c7) P → ∀ y ∈ laidR (decide (nxtL ∈ nm)) nxtL P (.slice a7 n7 c7), Octs W y.1 y.2.data) := fun W h => laidR_octs _ h
        have HJ : Hid ((laidR (decide (M ∈ nm)) M F (.slice a6 n6 c6) ++ (laidR (decide (nxtL ∈ nm)) nxtL P (.slice a7 n7 c7) ++ endR)).map (·.2) = laidA (decide (M ∈ nm)) M F ++ (laidA (decide (nxtL ∈ nm)) nxtL P ++ [⟨6, [], [], []⟩, ⟨4, nxtL, curL, []⟩, ⟨6, [], [], []⟩])) := beg_join
        generalize laidR (decide (M ∈ nm)) M F (.slice a6 n6 c6) = L1 at *
        generalize laidR (decide (nxtL ∈ nm)) nxtL P (.slice a7 n7 c7) = L2 at *
        clear b8 o8 HL1 R7 HNm
        go_wp2_with fail
        refine HL2.out.mono ?_
        rintro e w9 ⟨a9, n9, c9, rfl, o9, b9⟩
        have O8b : Hid (OwnR w9 w7.heap.size 94 4 (.slice a8 n8 c8) (L1.map arow)) := O8.out.up b9.out
        have O9b : Hid (Rws 4 w9 (.slice a9 n9 c9) (L2.map arow)) := Rws.own o9.out
        have V9 : Hid (Below w7.heap.size w7 w9) := up_trans V8.out b9.out
        have HBn : Hid ((((L1.map arow).length + (L2.map arow).length) + ((L1.map arow).length + (L2.map arow).length) / 4 + 192) * 64 ≤ 281474976710656 ∧ (L1.map arow).length + (L2.map arow).length ≤ maxLen) := by
          have := HB1.out
          have := HB2.out
          unfold Hid maxLen
          omega
        clear o9 b9 HL2 R8 V8 O8
        go_upto_region 17 with (at_builtin; refine wpList_append_rows _ rfl _ _ 44 94 _ 4 64 rfl Tryz.underlying44 Tryz.infoA rfl (by decide) w7.heap.size (.slice a8 n8 c8) (L1.map arow) rfl O8b.out (.slice a9 n9 c9) (L2.map arow) rfl O9b.out HO2.out HBn.out.1 HBn.out.2 V9.out.size ?_; intro v10 w10 o10 g10)
        have V10 : Hid (Below w7.heap.size w7 w10) := own_grown O8b.out V9.out V9.out.size g10
        have O10 : Hid (OwnR w10 w7.heap.size 94 4 v10 (L1.map arow ++ L2.map arow)) := o10
        obtain ⟨a10, c10, e10, -, -⟩ := (Rws.own o10).len
        obtain ⟨n10, hn10⟩ : ∃ n10, n10 = (L1.map arow ++ L2.map arow).length := ⟨_, rfl⟩
        rw [← hn10] at e10
        subst e10
        have HBe : Hid ((((L1.map arow ++ L2.map arow).length + 3) + ((L1.map arow ++ L2.map arow).length + 3) / 4 + 192) * 64 ≤ 281474976710656 ∧ (L1.map arow ++ L2.map arow).length + 3 ≤ maxLen) := by
          have := HB1.out
          have := HB2.out
          rw [List.length_append]
          unfold Hid maxLen
          omega
        have HRe : Hid (Rws 4 (w10.alloc (.cells #[.int .i64 6, .string ⟨#[]⟩, .string ⟨#[]⟩, .slice none 0 0, .int .i64 4, .string ⟨#[110, 101, 120, 116]⟩, .string ⟨#[67, 85, 82, 82, 69, 78, 84]⟩, .slice none 0 0, .int .i64 6, .string ⟨#[]⟩, .string ⟨#[]⟩, .slice none 0 0] 94)) (.slice (some ⟨w10.heap.size, 0, none⟩) 3 3) (endR.map arow)) := Rws.made (sz := 4) w10 94 (endR.map arow) (by intro cs hcs; obtain ⟨y, _, rfl⟩ := List.mem_map.1 hcs; rfl) (by simp [endR, maxLen])
        have HOe : Hid (∀ cs ∈ endR.map arow, ∀ u ∈ cs, u.oneCell' = true) := by
          intro cs hcs u hu
          simp [endR, arow, nilV] at hcs
          rcases hcs with rfl | rfl | rfl <;> (simp at hu; rcases hu with rfl | rfl | rfl | rfl <;> rfl)
        have V10a : Hid (Below w7.heap.size w7 (w10.alloc (.cells #[.int .i64 6, .string ⟨#[]⟩, .string ⟨#[]⟩, .slice none 0 0, .int .i64 4, .string ⟨#[110, 101, 120, 116]⟩, .string ⟨#[67, 85, 82, 82, 69, 78, 84]⟩, .slice none 0 0, .int .i64 6, .string ⟨#[]⟩, .string ⟨#[]⟩, .slice none 0 0] 94))) := up_al V10.out _
        have O10a : Hid (OwnR (w10.alloc (.cells #[.int .i64 6, .string ⟨#[]⟩, .string ⟨#[]⟩, .slice none 0 0, .int .i64 4, .string ⟨#[110, 101, 120, 116]⟩, .string ⟨#[67, 85, 82, 82, 69, 78, 84]⟩, .slice none 0 0, .int .i64 6, .string ⟨#[]⟩, .string ⟨#[]⟩, .slice none 0 0] 94)) w7.heap.size 94 4 (.slice a10 n10 c10) (L1.map arow ++ L2.map arow)) := O10.out.up (up_alloc _ _)
        have hel : (endR.map arow).length = 3 := rfl
        rw [← hel] at HBe
        clear hel o10 g10 hn10 O8b O9b HBn
        obtain ⟨L3, hL3⟩ : ∃ L3, L3 = endR.map arow := ⟨_, rfl⟩
        rw [← hL3] at HBe HRe HOe
        have HLend : Hid (endR.map arow = L3) := hid hL3.symm
        clear hL3
        go_wp2_with (at_builtin; refine wpList_append_rows _ rfl _ _ 44 94 _ 4 64 rfl Tryz.underlying44 Tryz.infoA rfl (by decide) w7.heap.size (.slice a10 n10 c10) (L1.map arow ++ L2.map arow) rfl O10a.out (.slice (some ⟨w10.heap.size, 0, none⟩) 3 3) L3 rfl HRe.out HOe.out HBe.out.1 HBe.out.2 V10a.out.size ?_; intro v11 w11 o11 g11)
        have V11 : Hid (Below w7.heap.size w7 w11) := own_grown O10a.out V10a.out V10a.out.size g11
        have O11 : Hid (OwnR w11 w7.heap.size 94 4 v11 ((L1.map arow ++ L2.map arow) ++ L3)) := o11
        obtain ⟨a11, c11, e11, -, -⟩ := (Rws.own o11).len
        obtain ⟨n11, hn11⟩ : ∃ n11, n11 = ((L1.map arow ++ L2.map arow) ++ L3).length := ⟨_, rfl⟩
        rw [← hn11] at e11
        subst e11
        clear o11 g11 hn11
        go_ret2
        rw [HPd.out]
        refine ⟨_, _, _, rfl, ?_, U7.out.trans (V11.out.mono U7.out.size)⟩
        refine ⟨L1 ++ (L2 ++ endR), ?_, ?_, ?_⟩
        · rw [HJ.out]
          exact HBL.out
        · rw [List.map_append, List.map_append, ← List.append_assoc]
          rw [HLend.out]
          exact O11.out.mono U7.out.size
        · intro y hy
          rcases List.mem_append.1 hy with q | q
          · exact HQ1.out _ (O7a.out.up V11.out) y q
          · rcases List.mem_append.1 q with q | q
            · exact HQ2.out _ (O7b.out.up V11.out) y q
            · have hn : Octs w11 nilV [] := ⟨(by simp), .inl ⟨rfl, _, _, rfl, fun _ => rfl⟩⟩
              unfold endR at q
              simp at q
              rcases q with rfl | rfl | rfl <;> exact hn
      · have hif : idOk id = false := by simpa using hid2
        rw [if_neg hid2] at HPd
        have hne : nameN 109 id = ([], 4) := by unfold nameN; rw [hif]; rfl
        have HNa := hid (nameX 109 id { data := #[] } 4 (by rw [hne]; rfl) (by omega) w4 (HE.out.up U4.out).1)
        clear hid2 hif hne
        go_wp2_with fail
        refine HNa.out.mono ?_
        rintro e w5 ⟨rfl, b5⟩
        have U5 : Hid (Below w.heap.size w w5) := up_trans U4.out b5
        clear b5 HNa
        go_wp2_with fail
        go_ret2
        rw [HPd.out]
        exact ⟨_, _, _, rfl, ActO.nil _ _, U5⟩
    · rw [if_neg hev] at HPd
      have HWo : Hid (Calls Tryz.prog 34 #[.agg #[.slice va vn vc, .int .i64 seq, .int .i64 next]] w2 fun e w' => e = .returned (.tuple #[.agg #[.slice none 0 0, .slice none 0 0, .int .i64 0, .int .i64 0], .int .i64 9]) ∧ Below w2.heap.size w2 w') := by
        refine HW2.out.mono ?_
        intro e w' h
        unfold WhoE at h
        rw [if_neg hev] at h
        exact h
      clear HW2 hev
      go_wp2_with fail
      refine HWo.out.mono ?_
      rintro e w3 ⟨rfl, b3⟩
      have U3 : Hid (Below w.heap.size w w3) := up_trans U2.out b3
      clear b3 HWo z0 z1 z2
      go_wp2_with fail
      go_ret2
      rw [HPd.out]
      exact ⟨_, _, _, rfl, ActO.nil _ _, up_al U3.out _⟩
end Go.Proofs.YtnchjlimkgbfpaaGreatDoor

namespace Go.Proofs.YtnchjlimkgbfpaaGreatDoor
open Go.RowKit
set_option linter.unusedVariables false
set_option linter.unusedSimpArgs false
set_option maxRecDepth 20000
set_option maxHeartbeats 2000000 in
theorem refLaid_any (s : St) (x : List Int) (hx : ∀ y ∈ x, 0 ≤ y ∧ y ≤ 255) (v : Value) (a : Option Addr) (n c : Nat) (d : List Int) (w : World) (hv : StW w v s) (hc : checkP s = true) :
    Calls Tryz.prog 44 #[v, .string (strOfNums x), .slice a n c] w fun e w' => ∃ a' n' c', e = .returned (.slice a' n' c') ∧ Hid (OwnR w' w.heap.size 94 4 (.slice a' n' c') ((laidR (decide (x ∈ s.names.map (·.1))) x d (.slice a n c)).map arow)) ∧ Hid (Below w.heap.size w w') := by
  obtain ⟨af, nf, cf, an, nn, cn, as', ns, cs', ev⟩ := hv.shape
  subst ev
  obtain ⟨S, hS⟩ : ∃ S, S = strOfNums x := ⟨_, rfl⟩
  obtain ⟨w0, hw0⟩ : ∃ w0, w0 = w.alloc (.cells #[.int .i64 s.cap, .slice af nf cf, .slice an nn cn, .slice as' ns cs', .int .i64 s.next] 25) := ⟨_, rfl⟩
  have HW0 : Hid (w.alloc (.cells #[.int .i64 s.cap, .slice af nf cf, .slice an nn cn, .slice as' ns cs', .int .i64 s.next] 25) = w0) := hid hw0.symm
  have U0 : Hid (Below w.heap.size w w0) := by rw [hw0]; exact up_alloc _ _
  have B0 : Hid (w0.heap[w.heap.size]? = some (.cells #[.int .i64 s.cap, .slice af nf cf, .slice an nn cn, .slice as' ns cs', .int .i64 s.next] 25)) := by rw [hw0]; exact blk_new _ _
  have HC := hid (refHas_any s x hx _ w0 (hv.up U0.out) hc)
  rw [← hS] at HC ⊢
  have x0 := blk_cell B0.out 0 _ rfl
  have x1 := blk_cell B0.out 1 _ rfl
  have x2 := blk_cell B0.out 2 _ rfl
  have x3 := blk_cell B0.out 3 _ rfl
  have x4 := blk_cell B0.out 4 _ rfl
  clear hv hc hw0 B0
  have hs0 : strOfNums [] = ({ data := #[] } : ByteArray) := rfl
  have HR3 : Hid (∀ W : World, Rws 4 (W.alloc (.cells #[.int .i64 1, .string S, .string ⟨#[]⟩, .slice none 0 0, .int .i64 2, .string S, .string ⟨#[]⟩, .slice a n c, .int .i64 3, .string S, .string ⟨#[]⟩, .slice none 0 0] 94)) (.slice (some ⟨W.heap.size, 0, none⟩) 3 3) [[.int .i64 1, .string S, .string ⟨#[]⟩, .slice none 0 0], [.int .i64 2, .string S, .string ⟨#[]⟩, .slice a n c], [.int .i64 3, .string S, .string ⟨#[]⟩, .slice none 0 0]]) :=
    fun W => Rws.made (sz := 4) W 94 [[.int .i64 1, .string S, .string ⟨#[]⟩, .slice none 0 0], [.int .i64 2, .string S, .string ⟨#[]⟩, .slice a n c], [.int .i64 3, .string S, .string ⟨#[]⟩, .slice none 0 0]] (by intro cs hcs; simp at hcs; rcases hcs with rfl | rfl | rfl <;> rfl) (by simp [maxLen])
  have HO3 : Hid (∀ cs ∈ ([[.int .i64 1, .string S, .string ⟨#[]⟩, .slice none 0 0], [.int .i64 2, .string S, .string ⟨#[]⟩, .slice a n c], [.int .i64 3, .string S, .string ⟨#[]⟩, .slice none 0 0]] : List (List Value)), ∀ u ∈ cs, u.oneCell' = true) := by
    intro cs hcs u hu
    simp at hcs
    rcases hcs with rfl | rfl | rfl <;> (simp at hu; rcases hu with rfl | rfl | rfl | rfl <;> rfl)
  generalize hq : decide (x ∈ s.names.map (·.1)) = q at *
  clear hq
  cases q with
  | false =>
    have HF : Hid ((laidR false x d (.slice a n c)).map arow = [[.int .i64 1, .string S, .string ⟨#[]⟩, .slice none 0 0], [.int .i64 2, .string S, .string ⟨#[]⟩, .slice a n c], [.int .i64 3, .string S, .string ⟨#[]⟩, .slice none 0 0]]) := by
      unfold Hid
      rw [hS, ← hs0]
      rfl
    clear hS hs0
    go_enter Tryz.func44, Tryz.ntmps44
    go_upto_region 1 with fail
    rw [HW0.out]
    clear HW0
    go_wp2_with fail
    refine HC.out.mono ?_
    rintro e w1 ⟨rfl, b1⟩
    have U1 : Hid (Below w.heap.size w w1) := up_trans U0.out b1.out
    clear HC b1 x0 x1 x2 x3 x4
    have S0 : Hid (w.heap.size ≤ (w1.alloc (.cells #[.int .i64 1, .string S, .string ⟨#[]⟩, .slice none 0 0, .int .i64 2, .string S, .string ⟨#[]⟩, .slice a n c, .int .i64 3, .string S, .string ⟨#[]⟩, .slice none 0 0] 94)).heap.size) := (up_al U1.out _).size
    go_wp2_with (at_builtin; refine wpList_append_rows _ rfl _ _ 44 94 _ 4 64 rfl Tryz.underlying44 Tryz.infoA rfl (by decide) w.heap.size (.slice none 0 0) [] rfl (OwnR.nil _ _ _ _) (.slice (some ⟨w1.heap.size, 0, none⟩) 3 3) _ rfl (HR3.out w1) HO3.out (by simp) (by simp [maxLen]) S0.out ?_; intro v4 w4 o4 g4)
    have U4 : Hid (Below w.heap.size w w4) := (up_al U1.out _).grown g4 S0.out (fun k hk => by cases hk)
    obtain ⟨a4, c4, e4, -, -⟩ := (Rws.own o4).len
    subst e4
    go_ret
    refine ⟨_, _, _, rfl, ?_, U4⟩
    rw [HF.out]
    exact o4
  | true =>
    have HF : Hid ((laidR true x d (.slice a n c)).map arow = [[.int .i64 5, .string S, .string ⟨#[]⟩, .slice none 0 0]] ++ [[.int .i64 1, .string S, .string ⟨#[]⟩, .slice none 0 0], [.int .i64 2, .string S, .string ⟨#[]⟩, .slice a n c], [.int .i64 3, .string S, .string ⟨#[]⟩, .slice none 0 0]]) := by
      unfold Hid
      rw [hS, ← hs0]
      rfl
    have HR1 : Hid (∀ W : World, Rws 4 (W.alloc (.cells #[.int .i64 5, .string S, .string ⟨#[]⟩, .slice none 0 0] 94)) (.slice (some ⟨W.heap.size, 0, none⟩) 1 1) [[.int .i64 5, .string S, .string ⟨#[]⟩, .slice none 0 0]]) :=
      fun W => Rws.made (sz := 4) W 94 [[.int .i64 5, .string S, .string ⟨#[]⟩, .slice none 0 0]] (by intro cs hcs; simp at hcs; rcases hcs with rfl; rfl) (by simp [maxLen])
    have HO1 : Hid (∀ cs ∈ ([[.int .i64 5, .string S, .string ⟨#[]⟩, .slice none 0 0]] : List (List Value)), ∀ u ∈ cs, u.oneCell' = true) := by
      intro cs hcs u hu
      simp at hcs
      rcases hcs with rfl
      simp at hu
      rcases hu with rfl | rfl | rfl | rfl <;> rfl
    clear hS hs0
    go_enter Tryz.func44, Tryz.ntmps44
    go_upto_region 1 with fail
    rw [HW0.out]
    clear HW0
    go_wp2_with fail
    refine HC.out.mono ?_
    rintro e w1 ⟨rfl, b1⟩
    have U1 : Hid (Below w.heap.size w w1) := up_trans U0.out b1.out
    clear HC b1 x0 x1 x2 x3 x4
    have S0 : Hid (w.heap.size ≤ (w1.alloc (.cells #[.int .i64 5, .string S, .string ⟨#[]⟩, .slice none 0 0] 94)).heap.size) := (up_al U1.out _).size
    go_upto_region 4 with (at_builtin; refine wpList_append_rows _ rfl _ _ 44 94 _ 4 64 rfl Tryz.underlying44 Tryz.infoA rfl (by decide) w.heap.size (.slice none 0 0) [] rfl (OwnR.nil _ _ _ _) (.slice (some ⟨w1.heap.size, 0, none⟩) 1 1) _ rfl (HR1.out w1) HO1.out (by simp) (by simp [maxLen]) S0.out ?_; intro v3 w3 o3 g3)
    have U3 : Hid (Below w.heap.size w w3) := (up_al U1.out _).grown g3 S0.out (fun k hk => by cases hk)
    have O3 : Hid (OwnR w3 w.heap.size 94 4 v3 [[.int .i64 5, .string S, .string ⟨#[]⟩, .slice none 0 0]]) := o3
    obtain ⟨a3, c3, e3, -, -⟩ := (Rws.own o3).len
    subst e3
    have O3b : Hid (OwnR (w3.alloc (.cells #[.int .i64 1, .string S, .string ⟨#[]⟩, .slice none 0 0, .int .i64 2, .string S, .string ⟨#[]⟩, .slice a n c, .int .i64 3, .string S, .string ⟨#[]⟩, .slice none 0 0] 94)) w.heap.size 94 4 (.slice a3 1 c3) [[.int .i64 5, .string S, .string ⟨#[]⟩, .slice none 0 0]]) := O3.out.up (up_alloc _ _)
    have S3 : Hid (w.heap.size ≤ (w3.alloc (.cells #[.int .i64 1, .string S, .string ⟨#[]⟩, .slice none 0 0, .int .i64 2, .string S, .string ⟨#[]⟩, .slice a n c, .int .i64 3, .string S, .string ⟨#[]⟩, .slice none 0 0] 94)).heap.size) := (up_al U3.out _).size
    have HBel : Hid (∀ W, (w3.alloc (.cells #[.int .i64 1, .string S, .string ⟨#[]⟩, .slice none 0 0, .int .i64 2, .string S, .string ⟨#[]⟩, .slice a n c, .int .i64 3, .string S, .string ⟨#[]⟩, .slice none 0 0] 94)).grownBy W (Value.slice a3 1 c3).ownBlock → Below w.heap.size w W) := by
      intro W hg
      refine (up_al U3.out _).grown hg S3.out (fun g hk => ?_)
      rcases O3.out.2.2 with ⟨q, _⟩ | ⟨g', cap', cur, q, hbg, _⟩
      · injection q with q _ _; subst q; simp [Value.ownBlock] at hk
      · injection q with q _ _; subst q; simp [Value.ownBlock] at hk; omega
    clear o3 g3
    go_wp2_with (at_builtin; refine wpList_append_rows _ rfl _ _ 44 94 _ 4 64 rfl Tryz.underlying44 Tryz.infoA rfl (by decide) w.heap.size (.slice a3 1 c3) [[.int .i64 5, .string S, .string ⟨#[]⟩, .slice none 0 0]] rfl O3b.out (.slice (some ⟨w3.heap.size, 0, none⟩) 3 3) _ rfl (HR3.out w3) HO3.out (by simp) (by simp [maxLen]) S3.out ?_; intro v4 w4 o4 g4)
    have U4 : Hid (Below w.heap.size w w4) := HBel.out _ g4
    obtain ⟨a4, c4, e4, -, -⟩ := (Rws.own o4).len
    subst e4
    go_ret
    refine ⟨_, _, _, rfl, ?_, U4⟩
    rw [HF.out]
    exact o4
end Go.Proofs.YtnchjlimkgbfpaaGreatDoor
