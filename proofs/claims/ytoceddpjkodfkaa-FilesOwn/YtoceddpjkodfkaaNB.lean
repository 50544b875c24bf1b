/- The document's Do: files synced, made longer, renamed. -/
import Derived.Test.YtoceddpjkodfkaaNA

/- The document's Do: a file synced. -/
namespace Go.Proofs.Ytoceddpjkodfkaa
open Go.RowKit
set_option linter.unusedVariables false
set_option linter.unusedSimpArgs false

set_option maxHeartbeats 8000000 in
set_option maxRecDepth 4000 in
theorem refDo_three (s : St) (a : Ac) (v va : Value) (w : World) (hv : StW w v s) (ha : AcW w va a) (hc : checkP s = true) (hw : a.what = 3) :
    Calls Try.prog 12 #[v, va] w fun e w' => ∃ v', e = .returned (.tuple #[v', .int .i64 (doR s a).2]) ∧ OwnU w' w.heap.size v' (doR s a).1 ∧ Below w.heap.size w w' := by
  have HRn : Hid (findOf s.names a.name < 0 → doR s a = (z0, 71)) := by
    intro h
    unfold doR
    rw [if_neg (by rw [hc]; decide), if_neg (by omega), if_neg (by omega), if_neg (by omega), if_pos h]
  have HRp : Hid (¬ findOf s.names a.name < 0 → Hid (doR s a = (sweptOf { s with files := s.files.set (filR s a) ((fileD s (filR s a)).1, (fileD s (filR s a)).2.1, ((fileD s (filR s a)).2.1.length : Int)) }, 0))) := by
    intro h
    unfold Hid doR
    rw [if_neg (by rw [hc]; decide), if_neg (by omega), if_neg (by omega), if_neg (by omega), if_neg h]
    rw [if_neg (by omega), if_pos hw]
  obtain ⟨af, cf, an, cn, as', cs', rfl⟩ := hv.form
  obtain ⟨what, name, dest, data⟩ := a
  obtain ⟨vd, rfl, hd, hok⟩ := ha
  obtain ⟨ad, cd, evd, _⟩ := hd.slice
  simp only at evd hd hok
  subst evd
  unfold okAc at hok
  simp only at hok
  obtain ⟨ho1, ho2, ho3, ho4, ho5, ho6⟩ := hok
  simp only at hw
  subst hw
  simp only
  have HV : Hid (StW w (.agg #[.int .i64 s.cap, .slice af s.files.length cf, .slice an s.names.length cn, .slice as' s.safe.length cs', .int .i64 s.next]) s) := hv
  have HD : Hid (Octs w (.slice ad data.length cd) data) := hd
  have HN1 : Hid (OctL name ∧ name.length ≤ 140737488355328) := ⟨ho2, ho3⟩
  have HN2 : Hid (OctL dest ∧ dest.length ≤ 140737488355328) := ⟨ho4, ho5⟩
  obtain ⟨N, hN⟩ : ∃ N, N = w.heap.size := ⟨_, rfl⟩
  obtain ⟨wx, hwx⟩ : ∃ wx, wx = ((w.alloc (.cells #[.int .i64 s.cap, .slice af s.files.length cf, .slice an s.names.length cn, .slice as' s.safe.length cs', .int .i64 s.next] 25)).alloc (.cells #[.int .i64 3, .string (strOfNums name), .string (strOfNums dest), .slice ad data.length cd] 28)).alloc (.cells #[.int .i64 0, .slice none 0 0, .slice none 0 0, .slice none 0 0, .int .i64 0] 25) := ⟨_, rfl⟩
  have HWx : Hid (((w.alloc (.cells #[.int .i64 s.cap, .slice af s.files.length cf, .slice an s.names.length cn, .slice as' s.safe.length cs', .int .i64 s.next] 25)).alloc (.cells #[.int .i64 3, .string (strOfNums name), .string (strOfNums dest), .slice ad data.length cd] 28)).alloc (.cells #[.int .i64 0, .slice none 0 0, .slice none 0 0, .slice none 0 0, .int .i64 0] 25) = wx) := hwx.symm
  have b0 : wx.heap[N]? = some (.cells #[.int .i64 s.cap, .slice af s.files.length cf, .slice an s.names.length cn, .slice as' s.safe.length cs', .int .i64 s.next] 25) := by rw [hwx, hN]; exact blk_up (blk_two0 w _ _) (up_al (Below.refl _ _) _)
  have b1 : wx.heap[N + 1]? = some (.cells #[.int .i64 3, .string (strOfNums name), .string (strOfNums dest), .slice ad data.length cd] 28) := by rw [hwx, hN]; exact blk_up (blk_two1 w _ _) (up_al (Below.refl _ _) _)
  have b2 : wx.heap[N + 2]? = some (.cells #[.int .i64 0, .slice none 0 0, .slice none 0 0, .slice none 0 0, .int .i64 0] 25) := by
    rw [hwx, hN]
    have := blk_new ((w.alloc (.cells #[.int .i64 s.cap, .slice af s.files.length cf, .slice an s.names.length cn, .slice as' s.safe.length cs', .int .i64 s.next] 25)).alloc (.cells #[.int .i64 3, .string (strOfNums name), .string (strOfNums dest), .slice ad data.length cd] 28)) (.cells #[.int .i64 0, .slice none 0 0, .slice none 0 0, .slice none 0 0, .int .i64 0] 25)
    simpa using this
  have UX : Hid (Below w.heap.size w wx) := by rw [hwx]; exact up_al (up_al (up_al (Below.refl _ _) _) _) _
  have HN : Hid (N = w.heap.size) := hN
  clear hv hd hwx
  go_enter Try.func12, Try.ntmps12
  go_wp2_with fail
  rw [HWx.out, ← hN]
  clear HWx hN
  refine (refCheck_any s _ wx (HV.out.up UX.out)).mono ?_
  rintro e w1 ⟨rfl, u⟩
  have U1 : Hid (Below w.heap.size w w1) := up_trans UX.out u
  have B0 := blk_up b0 u
  have B1 := blk_up b1 u
  have B2 := blk_up b2 u
  clear b0 b1 b2 u UX
  have HG : Hid (Good s) := check_good hc
  rw [hc]
  have e0 : errOf true = 0 := rfl
  rw [e0]
  clear e0
  obtain ⟨q0, q1, q2, q3, q4⟩ := box_cells B0
  have a0 := blk_cell B1 0 _ rfl
  have a1 := blk_cell B1 1 _ rfl
  have a2 := blk_cell B1 2 _ rfl
  have a3 := blk_cell B1 3 _ rfl
  have hfew := HG.out.few
  have hn1 := few_names HG.out.names
  have hn2 := few_names HG.out.safe
  go_wp2_with fail
  refine (refOwn_any s _ w1 (HV.out.up U1.out) hfew (by omega) (by omega)).mono ?_
  rintro e w2 ⟨v2, rfl, ou, u⟩
  obtain ⟨a2f, c2f, a2n, c2n, a2s, c2s, rfl⟩ := (StW.ownU ou).form
  have OT : Hid (OwnT (w2.alloc (.cells #[.int .i64 s.cap, .slice a2f s.files.length c2f, .slice a2n s.names.length c2n, .slice a2s s.safe.length c2s, .int .i64 s.next] 25)) w1.heap.size w2.heap.size s) := ou.laid
  have U2 : Hid (Below w1.heap.size w1 w2) := u
  have U3 : Hid (Below w1.heap.size w1 (w2.alloc (.cells #[.int .i64 s.cap, .slice a2f s.files.length c2f, .slice a2n s.names.length c2n, .slice a2s s.safe.length c2s, .int .i64 s.next] 25))) := up_al u _
  have T0 : (w2.alloc (.cells #[.int .i64 s.cap, .slice a2f s.files.length c2f, .slice a2n s.names.length c2n, .slice a2s s.safe.length c2s, .int .i64 s.next] 25)).heap[w2.heap.size]? = some (.cells #[.int .i64 s.cap, .slice a2f s.files.length c2f, .slice a2n s.names.length c2n, .slice a2s s.safe.length c2s, .int .i64 s.next] 25) := blk_new _ _
  have B1' := blk_up B1 U3.out
  have B2' := blk_up B2 U3.out
  have B0n := B2
  clear ou u B1 B2 B0 q0 q1 q2 q3 q4 a0 a1 a2 a3
  have t2 := blk_cell T0 2 _ rfl
  have a1 := blk_cell B1' 1 _ rfl
  go_wp2_with fail
  generalize w2.alloc (.cells #[.int .i64 s.cap, .slice a2f s.files.length c2f, .slice a2n s.names.length c2n, .slice a2s s.safe.length c2s, .int .i64 s.next] 25) = w3 at *
  have HNm : Hid (NamesW w3 (.slice a2n s.names.length c2n) s.names) := by
    obtain ⟨vf, vn, vs, hb, ou⟩ := OT.out.take
    rw [hb] at T0
    simp at T0
    obtain ⟨rfl, rfl, rfl⟩ := T0
    obtain ⟨_, _, _, _, e, _, _, on, _⟩ := ou
    simp at e
    obtain ⟨rfl, rfl, rfl⟩ := e
    exact NamesW.own on
  refine (refFind_any s.names name HN1.out.1 _ w3 HNm.out).mono ?_
  rintro e w4 ⟨rfl, hw4⟩
  have hw4' : w3 = w4 := hw4.symm
  clear hw4
  subst hw4'
  have U03 : Hid (Below w.heap.size w w3) := up_trans U1.out U3.out
  obtain ⟨T, hT⟩ : ∃ T, T = w2.heap.size := ⟨_, rfl⟩
  rw [← hT] at OT T0 t2 ⊢
  have HTb : Hid (w1.heap.size ≤ T) := by rw [hT]; exact U2.out.size
  clear hT U2
  have HB1 : Hid (N + 3 ≤ w1.heap.size) := by
    have := blk_lt B0n
    unfold Hid
    omega
  clear B0n
  have hb3 : w1.heap.size ≤ w3.heap.size := U3.out.size
  obtain ⟨fd, hfd⟩ : ∃ fd, fd = findOf s.names name := ⟨_, rfl⟩
  have HFd : Hid (fd = findOf s.names name) := hfd
  rw [← hfd]
  clear hfd t2 a1
  have hfd1 := (placeOf_ge (fun p => decide (p.1 = name)) s.names)
  have hfd2 : -1 ≤ fd ∧ fd < (s.names.length : Int) := by rw [HFd.out]; exact hfd1
  clear hfd1
  obtain ⟨hfd1, hfd2⟩ := hfd2
  have a0 := blk_cell B1' 0 _ rfl
  by_cases hneg : fd < 0
  · have HR : Hid (doR s ⟨3, name, dest, data⟩ = (z0, 71)) := HRn.out (by rw [← HFd.out]; exact hneg)
    obtain ⟨x0, x1, x2, x3, x4⟩ := box_cells B2'
    have f0 := blk_frozen B2' 0
    have f1 := blk_frozen B2' 1
    have f2 := blk_frozen B2' 2
    have f3 := blk_frozen B2' 3
    have f4 := blk_frozen B2' 4
    have b5 := set5_blk B2' (.int .i64 0) (.slice none 0 0) (.slice none 0 0) (.slice none 0 0) (.int .i64 0)
    clear B2'
    go_wp2_with fail
    refine bodyPost_ret (results_docs1 rfl _ _ rfl rfl b5) rfl ?_
    rw [HR.out]
    exact ⟨_, rfl, OwnU.zero _ _ 0 0 in64_0 in64_0, U03.out.grown (set5_grown _ _ _ _ _ _ _) U03.out.size (fun j hj => by injection hj with hj; rw [← hj, HN.out]; omega)⟩
  · obtain ⟨i, hi⟩ : ∃ i : Nat, fd = (i : Int) := ⟨fd.toNat, by omega⟩
    subst hi
    have hil : i < s.names.length := by omega
    have hi0 : (0 : Int) ≤ (i : Int) := by omega
    have HR := HRp.out (by rw [← HFd.out]; omega)
    have HFi : Hid ((findOf s.names name).toNat = i) := by rw [← HFd.out]; exact Int.toNat_natCast i
    obtain ⟨af3, cf3, an3, cn3, as3, cs3, m, hO⟩ := OT.out.open
    obtain ⟨b, off, cap', e, _, _, c0, c1, _⟩ := (NamesW.own hO.2.2.2.2.1).at i hil
    simp at e
    obtain ⟨rfl, rfl⟩ := e
    have HO : Hid (OpenT w3 w1.heap.size T s af3 cf3 (some ⟨b, off, none⟩) cn3 as3 cs3 m) := hO
    obtain ⟨id, hid⟩ : ∃ id, id = (s.names.getD i ([], 0)).2 := ⟨_, rfl⟩
    have HId : Hid (id = (nameAt s.names i).2) := hid
    rw [← hid] at c1
    clear hid
    have HFW : Hid (FilesW w3 (.slice af3 m.length cf3) s.files) := by
      unfold Hid
      rw [← hO.2.2.1]
      exact FilesW.ownG hO.2.2.2.1
    obtain ⟨t0, t1, t2, t3, t4⟩ := box_cells hO.2.1
    have p0 := cell_up t0
    have p1 := cell_up t1
    have p2 := cell_up t2
    have p3 := cell_up t3
    have p4 := cell_up t4
    have pc := cell_up c1
    obtain ⟨kk, hkk⟩ : ∃ kk, kk = fileOf s.files id := ⟨_, rfl⟩
    have HKk : Hid (kk = fileOf s.files id) := hkk
    clear hkk
    have HCF : Hid (∀ p : UpW w3, Calls Try.prog 40 #[.agg #[.int .i64 s.cap, .slice af3 m.length cf3, .slice (some ⟨b, off, none⟩) s.names.length cn3, .slice as3 s.safe.length cs3, .int .i64 s.next], .int .i64 id] p.val fun e w' => e = .returned (.int .i64 kk) ∧ Below p.val.heap.size p.val w') := by
      intro p
      rw [HKk.out]
      refine (refFile_any s.files id _ _ _ _ _ p.val (HFW.out.up p.up)).mono ?_
      rintro e w' ⟨rfl, rfl⟩
      exact ⟨rfl, up_alloc _ _⟩
    clear hO t0 t1 t2 t3 t4 c0 c1
    go_wp2_with fail
    refine wp_region_up (by kernel_rfl) (by kernel_rfl) ?_
    repeat
      (with_reducible refine wpQuiet_step (fun K hK => ?_)
       go_simp
       first
         | (refine hK _ ?_; clear hK K)
         | (apply Exists.intro; refine ⟨fun _ => ?_, hK _ ?_⟩; go_at_call 40; with_reducible refine calls_up (HCF.out _); clear hK K))
    with_reducible refine wpQuiet_nil ?_
    intro _ hw'
    obtain ⟨p, hw''⟩ := hw'
    subst hw''
    have HO2 : Hid (OpenT p.val w1.heap.size T s af3 cf3 (some ⟨b, off, none⟩) cn3 as3 cs3 m) := HO.out.up p.up
    have B1p := blk_up B1' p.up
    have B2p := blk_up B2' p.up
    have UP : Hid (Below w.heap.size w p.val) := up_trans U03.out p.up
    have hbp : w1.heap.size ≤ p.val.heap.size := Nat.le_trans hb3 p.up.size
    have hDp := HD.out.up UP.out
    have HDp : Hid (Octs p.val (.slice ad data.length cd) data) := hDp
    clear HCF p0 p1 p2 p3 p4 pc HO HFW OT B1' B2' a0 hDp T0 HNm
    generalize p.val = wp at *
    clear p
    have a0 := blk_cell B1p 0 _ rfl
    have a1 := blk_cell B1p 1 _ rfl
    have a2 := blk_cell B1p 2 _ rfl
    have a3 := blk_cell B1p 3 _ rfl
    have hkb := placeOf_ge (fun f : Int × List Int × Int => f.1 == id) s.files
    have hk1 : kk < (s.files.length : Int) := by rw [HKk.out]; exact hkb.2
    have hk0 : 0 ≤ kk := by
      rw [HKk.out]
      refine (file_iff s.files id).2 ?_
      rw [HId.out]
      have e9 : nameAt s.names i = s.names[i] := by simp [nameAt, List.getD, hil]
      rw [e9]
      exact HG.out.names.ids _ (List.getElem_mem hil)
    obtain ⟨k, hk⟩ : ∃ k : Nat, kk = (k : Int) := ⟨kk.toNat, by omega⟩
    subst hk
    have hkl : k < s.files.length := by omega
    have HFil : Hid (filR s ⟨3, name, dest, data⟩ = k) := by
      unfold Hid filR
      simp only
      rw [HFi.out, ← HId.out, ← HKk.out]
      exact Int.toNat_natCast k
    rw [HFil.out] at HR
    clear hkb HFil HKk
    obtain ⟨him, ⟨g, rfl⟩, e2, au, cu, eu⟩ := HO2.out.rowAt k hkl
    have hii : (k : Int) < (m.length : Int) := by omega
    have q1 := blk_cell HO2.out.2.1 1 _ rfl
    obtain ⟨k0, k1, k2, fz⟩ := HO2.out.cells3 k him
    rw [eu] at k1
    have hmem : m.getD k noF ∈ m := by simp [List.getD, him]
    have hrow := HO2.out.2.2.2.1.2.1 _ hmem
    have f2 := fz (k * 3 + 2)
    have hlen : (fileD s k).2.1.length ≤ 140737488355328 := by
      have := hrow.2.2.1
      rw [e2] at this
      exact this
    have hsf := HO2.out.2.2.2.1.sync rfl k him ((fileD s k).2.1.length : Int) (by unfold In64; omega)
    have hst := HO2.out.setFile hbp k him (grown_refl wp none) (.inl rfl) _ _ _ hsf
    rw [e2] at hst
    have HS0 : Hid (OwnT (wp.setCell ⟨g, k * 3 + 2, none⟩ (.int .i64 ((fileD s k).2.1.length : Int))) w1.heap.size T { s with files := s.files.set k ((fileD s k).1, (fileD s k).2.1, ((fileD s k).2.1.length : Int)) } ∧ Beside w1.heap.size T wp (wp.setCell ⟨g, k * 3 + 2, none⟩ (.int .i64 ((fileD s k).2.1.length : Int)))) := hst
    obtain ⟨S2, hS2⟩ : ∃ S2, S2 = { s with files := s.files.set k ((fileD s k).1, (fileD s k).2.1, ((fileD s k).2.1.length : Int)) } := ⟨_, rfl⟩
    rw [← hS2] at HR HS0
    have HS2 : Hid (S2 = { s with files := s.files.set k ((fileD s k).1, (fileD s k).2.1, ((fileD s k).2.1.length : Int)) }) := hS2
    clear hsf hst e2 eu fz hmem hrow hS2
    generalize hk9 : (m.getD k noF).2.2.2 = sy at k2
    clear hk9 k0
    generalize hfd9 : (fileD s k).2.1.length = dl at *
    clear hfd9
    have nG : ¬ g = T := by
      have := own_blk_ne HO2.out.2.2.2.1.1.2 HO2.out.2.1 (by decide)
      simp [Value.ownBlock] at this
      exact this
    have nG2 : ¬ T = g := fun e => nG e.symm
    go_upto_region 30 with fail
    go_region_held3 (fun w' => w'.cell? ⟨T, 1, none⟩ = some (.slice (some ⟨g, 0, none⟩) m.length cf3) ∧ w'.cell? ⟨g, k * 3 + 1, none⟩ = some (.slice au dl cu)) (first | (simp [go_sem, q1, k1]; done) | (simp [go_sem, q1, k1, nG, nG2]; done)) (fail)
    have HS : Hid (OwnT (wp.setCell ⟨g, k * 3 + 2, none⟩ (.int .i64 (dl : Int))).drew w1.heap.size T S2 ∧ Beside w1.heap.size T wp (wp.setCell ⟨g, k * 3 + 2, none⟩ (.int .i64 (dl : Int))).drew) := ⟨HS0.out.1.up (up_dr (Below.refl _ _)), HS0.out.2.drew⟩
    have bT : (wp.setCell ⟨g, k * 3 + 2, none⟩ (.int .i64 (dl : Int))).drew.heap[T]? = some (.cells #[.int .i64 s.cap, .slice (some ⟨g, 0, none⟩) m.length cf3, .slice (some ⟨b, off, none⟩) s.names.length cn3, .slice as3 s.safe.length cs3, .int .i64 s.next] 25) := blk_up (blk_other HO2.out.2.1 nG2 _) (up_dr (Below.refl _ _))
    clear q1 k1 k2 f2 a0 a1 a2 a3 HS0
    generalize (wp.setCell ⟨g, k * 3 + 2, none⟩ (.int .i64 (dl : Int))).drew = wc at *
    have HL6 : Hid (S2.files.length ≤ 257) := by
      rw [HS2.out]
      show (s.files.set _ _).length ≤ 257
      rw [List.length_set]
      omega
    obtain ⟨y0, y1, y2, y3, y4⟩ := box_cells bT
    have OU6 : Hid (OwnU wc w1.heap.size _ S2) := HS.out.1.at bT
    have bR6 : Hid (wc.heap[N + 2]? = some (.cells #[.int .i64 0, .slice none 0 0, .slice none 0 0, .slice none 0 0, .int .i64 0] 25)) := HS.out.2.low HTb.out (by have := HB1.out; omega) B2p
    have U6 : Hid (Below w.heap.size w wc) := UP.out.trans ((HS.out.2.below HTb.out).mono U1.out.size)
    have hb6 : w1.heap.size ≤ wc.heap.size := Nat.le_trans hbp HS.out.2.size
    clear bT
    clear HS2
    go_wp2_with fail
    refine (refSwept_any S2 w1.heap.size _ _ OU6.out HL6.out hb6).mono ?_
    rintro e w7 ⟨v7, rfl, ou7, u7⟩
    obtain ⟨a7, n7, c7, a8, n8, c8, a9, n9, c9, ev7⟩ := ou7.shape
    subst ev7
    have bR7 := blk_up bR6.out u7
    have U7 : Hid (Below w.heap.size w w7) := up_trans U6.out u7
    have HO7 : Hid (OwnU w7 w1.heap.size (.agg #[.int .i64 (sweptOf S2).cap, .slice a7 n7 c7, .slice a8 n8 c8, .slice a9 n9 c9, .int .i64 (sweptOf S2).next]) (sweptOf S2)) := ou7
    clear ou7 u7
    obtain ⟨x0, x1, x2, x3, x4⟩ := box_cells bR7
    have f0 := blk_frozen bR7 0
    have f1 := blk_frozen bR7 1
    have f2 := blk_frozen bR7 2
    have f3 := blk_frozen bR7 3
    have f4 := blk_frozen bR7 4
    have b5 := set5_blk bR7 (.int .i64 (sweptOf S2).cap) (.slice a7 n7 c7) (.slice a8 n8 c8) (.slice a9 n9 c9) (.int .i64 (sweptOf S2).next)
    have HV5 : Hid (OwnU (set5 w7 (N + 2) (.int .i64 (sweptOf S2).cap) (.slice a7 n7 c7) (.slice a8 n8 c8) (.slice a9 n9 c9) (.int .i64 (sweptOf S2).next)) w1.heap.size (.agg #[.int .i64 (sweptOf S2).cap, .slice a7 n7 c7, .slice a8 n8 c8, .slice a9 n9 c9, .int .i64 (sweptOf S2).next]) (sweptOf S2)) := (HO7.out.put bR7).2
    clear bR7
    go_wp2_with fail
    refine bodyPost_ret (results_docs1 rfl _ _ rfl rfl b5) rfl ?_
    rw [HR.out]
    exact ⟨_, rfl, HV5.out.mono U1.out.size, U7.out.grown (set5_grown _ _ _ _ _ _ _) U7.out.size (fun j hj => by injection hj with hj; rw [← hj, HN.out]; omega)⟩

end Go.Proofs.Ytoceddpjkodfkaa

/- The document's Do: a file made longer. -/
namespace Go.Proofs.Ytoceddpjkodfkaa
open Go.RowKit
set_option linter.unusedVariables false
set_option linter.unusedSimpArgs false

set_option maxHeartbeats 8000000 in
set_option maxRecDepth 4000 in
theorem refDo_two (s : St) (a : Ac) (v va : Value) (w : World) (hv : StW w v s) (ha : AcW w va a) (hc : checkP s = true) (hw : a.what = 2) :
    Calls Try.prog 12 #[v, va] w fun e w' => ∃ v', e = .returned (.tuple #[v', .int .i64 (doR s a).2]) ∧ OwnU w' w.heap.size v' (doR s a).1 ∧ Below w.heap.size w w' := by
  have HRn : Hid (findOf s.names a.name < 0 → doR s a = (z0, 71)) := by
    intro h
    unfold doR
    rw [if_neg (by rw [hc]; decide), if_neg (by omega), if_neg (by omega), if_neg (by omega), if_pos h]
  have HRp : Hid (¬ findOf s.names a.name < 0 → Hid (doR s a = (if s.cap - usedOf s.files < (a.data.length : Int) then (z0, 51) else (sweptOf { s with files := s.files.set (filR s a) ((fileD s (filR s a)).1, (fileD s (filR s a)).2.1 ++ a.data, (fileD s (filR s a)).2.2) }, 0)))) := by
    intro h
    unfold Hid doR
    rw [if_neg (by rw [hc]; decide), if_neg (by omega), if_neg (by omega), if_neg (by omega), if_neg h]
    rw [if_pos hw]
  obtain ⟨af, cf, an, cn, as', cs', rfl⟩ := hv.form
  obtain ⟨what, name, dest, data⟩ := a
  obtain ⟨vd, rfl, hd, hok⟩ := ha
  obtain ⟨ad, cd, evd, _⟩ := hd.slice
  simp only at evd hd hok
  subst evd
  unfold okAc at hok
  simp only at hok
  obtain ⟨ho1, ho2, ho3, ho4, ho5, ho6⟩ := hok
  simp only at hw
  subst hw
  simp only
  have HV : Hid (StW w (.agg #[.int .i64 s.cap, .slice af s.files.length cf, .slice an s.names.length cn, .slice as' s.safe.length cs', .int .i64 s.next]) s) := hv
  have HD : Hid (Octs w (.slice ad data.length cd) data) := hd
  have HN1 : Hid (OctL name ∧ name.length ≤ 140737488355328) := ⟨ho2, ho3⟩
  have HN2 : Hid (OctL dest ∧ dest.length ≤ 140737488355328) := ⟨ho4, ho5⟩
  obtain ⟨N, hN⟩ : ∃ N, N = w.heap.size := ⟨_, rfl⟩
  obtain ⟨wx, hwx⟩ : ∃ wx, wx = ((w.alloc (.cells #[.int .i64 s.cap, .slice af s.files.length cf, .slice an s.names.length cn, .slice as' s.safe.length cs', .int .i64 s.next] 25)).alloc (.cells #[.int .i64 2, .string (strOfNums name), .string (strOfNums dest), .slice ad data.length cd] 28)).alloc (.cells #[.int .i64 0, .slice none 0 0, .slice none 0 0, .slice none 0 0, .int .i64 0] 25) := ⟨_, rfl⟩
  have HWx : Hid (((w.alloc (.cells #[.int .i64 s.cap, .slice af s.files.length cf, .slice an s.names.length cn, .slice as' s.safe.length cs', .int .i64 s.next] 25)).alloc (.cells #[.int .i64 2, .string (strOfNums name), .string (strOfNums dest), .slice ad data.length cd] 28)).alloc (.cells #[.int .i64 0, .slice none 0 0, .slice none 0 0, .slice none 0 0, .int .i64 0] 25) = wx) := hwx.symm
  have b0 : wx.heap[N]? = some (.cells #[.int .i64 s.cap, .slice af s.files.length cf, .slice an s.names.length cn, .slice as' s.safe.length cs', .int .i64 s.next] 25) := by rw [hwx, hN]; exact blk_up (blk_two0 w _ _) (up_al (Below.refl _ _) _)
  have b1 : wx.heap[N + 1]? = some (.cells #[.int .i64 2, .string (strOfNums name), .string (strOfNums dest), .slice ad data.length cd] 28) := by rw [hwx, hN]; exact blk_up (blk_two1 w _ _) (up_al (Below.refl _ _) _)
  have b2 : wx.heap[N + 2]? = some (.cells #[.int .i64 0, .slice none 0 0, .slice none 0 0, .slice none 0 0, .int .i64 0] 25) := by
    rw [hwx, hN]
    have := blk_new ((w.alloc (.cells #[.int .i64 s.cap, .slice af s.files.length cf, .slice an s.names.length cn, .slice as' s.safe.length cs', .int .i64 s.next] 25)).alloc (.cells #[.int .i64 2, .string (strOfNums name), .string (strOfNums dest), .slice ad data.length cd] 28)) (.cells #[.int .i64 0, .slice none 0 0, .slice none 0 0, .slice none 0 0, .int .i64 0] 25)
    simpa using this
  have UX : Hid (Below w.heap.size w wx) := by rw [hwx]; exact up_al (up_al (up_al (Below.refl _ _) _) _) _
  have HN : Hid (N = w.heap.size) := hN
  clear hv hd hwx
  go_enter Try.func12, Try.ntmps12
  go_wp2_with fail
  rw [HWx.out, ← hN]
  clear HWx hN
  refine (refCheck_any s _ wx (HV.out.up UX.out)).mono ?_
  rintro e w1 ⟨rfl, u⟩
  have U1 : Hid (Below w.heap.size w w1) := up_trans UX.out u
  have B0 := blk_up b0 u
  have B1 := blk_up b1 u
  have B2 := blk_up b2 u
  clear b0 b1 b2 u UX
  have HG : Hid (Good s) := check_good hc
  rw [hc]
  have e0 : errOf true = 0 := rfl
  rw [e0]
  clear e0
  obtain ⟨q0, q1, q2, q3, q4⟩ := box_cells B0
  have a0 := blk_cell B1 0 _ rfl
  have a1 := blk_cell B1 1 _ rfl
  have a2 := blk_cell B1 2 _ rfl
  have a3 := blk_cell B1 3 _ rfl
  have hfew := HG.out.few
  have hn1 := few_names HG.out.names
  have hn2 := few_names HG.out.safe
  go_wp2_with fail
  refine (refOwn_any s _ w1 (HV.out.up U1.out) hfew (by omega) (by omega)).mono ?_
  rintro e w2 ⟨v2, rfl, ou, u⟩
  obtain ⟨a2f, c2f, a2n, c2n, a2s, c2s, rfl⟩ := (StW.ownU ou).form
  have OT : Hid (OwnT (w2.alloc (.cells #[.int .i64 s.cap, .slice a2f s.files.length c2f, .slice a2n s.names.length c2n, .slice a2s s.safe.length c2s, .int .i64 s.next] 25)) w1.heap.size w2.heap.size s) := ou.laid
  have U2 : Hid (Below w1.heap.size w1 w2) := u
  have U3 : Hid (Below w1.heap.size w1 (w2.alloc (.cells #[.int .i64 s.cap, .slice a2f s.files.length c2f, .slice a2n s.names.length c2n, .slice a2s s.safe.length c2s, .int .i64 s.next] 25))) := up_al u _
  have T0 : (w2.alloc (.cells #[.int .i64 s.cap, .slice a2f s.files.length c2f, .slice a2n s.names.length c2n, .slice a2s s.safe.length c2s, .int .i64 s.next] 25)).heap[w2.heap.size]? = some (.cells #[.int .i64 s.cap, .slice a2f s.files.length c2f, .slice a2n s.names.length c2n, .slice a2s s.safe.length c2s, .int .i64 s.next] 25) := blk_new _ _
  have B1' := blk_up B1 U3.out
  have B2' := blk_up B2 U3.out
  have B0n := B2
  clear ou u B1 B2 B0 q0 q1 q2 q3 q4 a0 a1 a2 a3
  have t2 := blk_cell T0 2 _ rfl
  have a1 := blk_cell B1' 1 _ rfl
  go_wp2_with fail
  generalize w2.alloc (.cells #[.int .i64 s.cap, .slice a2f s.files.length c2f, .slice a2n s.names.length c2n, .slice a2s s.safe.length c2s, .int .i64 s.next] 25) = w3 at *
  have HNm : Hid (NamesW w3 (.slice a2n s.names.length c2n) s.names) := by
    obtain ⟨vf, vn, vs, hb, ou⟩ := OT.out.take
    rw [hb] at T0
    simp at T0
    obtain ⟨rfl, rfl, rfl⟩ := T0
    obtain ⟨_, _, _, _, e, _, _, on, _⟩ := ou
    simp at e
    obtain ⟨rfl, rfl, rfl⟩ := e
    exact NamesW.own on
  refine (refFind_any s.names name HN1.out.1 _ w3 HNm.out).mono ?_
  rintro e w4 ⟨rfl, hw4⟩
  have hw4' : w3 = w4 := hw4.symm
  clear hw4
  subst hw4'
  have U03 : Hid (Below w.heap.size w w3) := up_trans U1.out U3.out
  obtain ⟨T, hT⟩ : ∃ T, T = w2.heap.size := ⟨_, rfl⟩
  rw [← hT] at OT T0 t2 ⊢
  have HTb : Hid (w1.heap.size ≤ T) := by rw [hT]; exact U2.out.size
  clear hT U2
  have HB1 : Hid (N + 3 ≤ w1.heap.size) := by
    have := blk_lt B0n
    unfold Hid
    omega
  clear B0n
  have hb3 : w1.heap.size ≤ w3.heap.size := U3.out.size
  obtain ⟨fd, hfd⟩ : ∃ fd, fd = findOf s.names name := ⟨_, rfl⟩
  have HFd : Hid (fd = findOf s.names name) := hfd
  rw [← hfd]
  clear hfd t2 a1
  have hfd1 := (placeOf_ge (fun p => decide (p.1 = name)) s.names)
  have hfd2 : -1 ≤ fd ∧ fd < (s.names.length : Int) := by rw [HFd.out]; exact hfd1
  clear hfd1
  obtain ⟨hfd1, hfd2⟩ := hfd2
  have a0 := blk_cell B1' 0 _ rfl
  by_cases hneg : fd < 0
  · have HR : Hid (doR s ⟨2, name, dest, data⟩ = (z0, 71)) := HRn.out (by rw [← HFd.out]; exact hneg)
    obtain ⟨x0, x1, x2, x3, x4⟩ := box_cells B2'
    have f0 := blk_frozen B2' 0
    have f1 := blk_frozen B2' 1
    have f2 := blk_frozen B2' 2
    have f3 := blk_frozen B2' 3
    have f4 := blk_frozen B2' 4
    have b5 := set5_blk B2' (.int .i64 0) (.slice none 0 0) (.slice none 0 0) (.slice none 0 0) (.int .i64 0)
    clear B2'
    go_wp2_with fail
    refine bodyPost_ret (results_docs1 rfl _ _ rfl rfl b5) rfl ?_
    rw [HR.out]
    exact ⟨_, rfl, OwnU.zero _ _ 0 0 in64_0 in64_0, U03.out.grown (set5_grown _ _ _ _ _ _ _) U03.out.size (fun j hj => by injection hj with hj; rw [← hj, HN.out]; omega)⟩
  · obtain ⟨i, hi⟩ : ∃ i : Nat, fd = (i : Int) := ⟨fd.toNat, by omega⟩
    subst hi
    have hil : i < s.names.length := by omega
    have hi0 : (0 : Int) ≤ (i : Int) := by omega
    have HR := HRp.out (by rw [← HFd.out]; omega)
    have HFi : Hid ((findOf s.names name).toNat = i) := by rw [← HFd.out]; exact Int.toNat_natCast i
    obtain ⟨af3, cf3, an3, cn3, as3, cs3, m, hO⟩ := OT.out.open
    obtain ⟨b, off, cap', e, _, _, c0, c1, _⟩ := (NamesW.own hO.2.2.2.2.1).at i hil
    simp at e
    obtain ⟨rfl, rfl⟩ := e
    have HO : Hid (OpenT w3 w1.heap.size T s af3 cf3 (some ⟨b, off, none⟩) cn3 as3 cs3 m) := hO
    obtain ⟨id, hid⟩ : ∃ id, id = (s.names.getD i ([], 0)).2 := ⟨_, rfl⟩
    have HId : Hid (id = (nameAt s.names i).2) := hid
    rw [← hid] at c1
    clear hid
    have HFW : Hid (FilesW w3 (.slice af3 m.length cf3) s.files) := by
      unfold Hid
      rw [← hO.2.2.1]
      exact FilesW.ownG hO.2.2.2.1
    obtain ⟨t0, t1, t2, t3, t4⟩ := box_cells hO.2.1
    have p0 := cell_up t0
    have p1 := cell_up t1
    have p2 := cell_up t2
    have p3 := cell_up t3
    have p4 := cell_up t4
    have pc := cell_up c1
    obtain ⟨kk, hkk⟩ : ∃ kk, kk = fileOf s.files id := ⟨_, rfl⟩
    have HKk : Hid (kk = fileOf s.files id) := hkk
    clear hkk
    have HCF : Hid (∀ p : UpW w3, Calls Try.prog 40 #[.agg #[.int .i64 s.cap, .slice af3 m.length cf3, .slice (some ⟨b, off, none⟩) s.names.length cn3, .slice as3 s.safe.length cs3, .int .i64 s.next], .int .i64 id] p.val fun e w' => e = .returned (.int .i64 kk) ∧ Below p.val.heap.size p.val w') := by
      intro p
      rw [HKk.out]
      refine (refFile_any s.files id _ _ _ _ _ p.val (HFW.out.up p.up)).mono ?_
      rintro e w' ⟨rfl, rfl⟩
      exact ⟨rfl, up_alloc _ _⟩
    clear hO t0 t1 t2 t3 t4 c0 c1
    go_wp2_with fail
    refine wp_region_up (by kernel_rfl) (by kernel_rfl) ?_
    repeat
      (with_reducible refine wpQuiet_step (fun K hK => ?_)
       go_simp
       first
         | (refine hK _ ?_; clear hK K)
         | (apply Exists.intro; refine ⟨fun _ => ?_, hK _ ?_⟩; go_at_call 40; with_reducible refine calls_up (HCF.out _); clear hK K))
    with_reducible refine wpQuiet_nil ?_
    intro _ hw'
    obtain ⟨p, hw''⟩ := hw'
    subst hw''
    have HO2 : Hid (OpenT p.val w1.heap.size T s af3 cf3 (some ⟨b, off, none⟩) cn3 as3 cs3 m) := HO.out.up p.up
    have B1p := blk_up B1' p.up
    have B2p := blk_up B2' p.up
    have UP : Hid (Below w.heap.size w p.val) := up_trans U03.out p.up
    have hbp : w1.heap.size ≤ p.val.heap.size := Nat.le_trans hb3 p.up.size
    have hDp := HD.out.up UP.out
    have HDp : Hid (Octs p.val (.slice ad data.length cd) data) := hDp
    clear HCF p0 p1 p2 p3 p4 pc HO HFW OT B1' B2' a0 hDp T0 HNm
    generalize p.val = wp at *
    clear p
    have a0 := blk_cell B1p 0 _ rfl
    have a1 := blk_cell B1p 1 _ rfl
    have a2 := blk_cell B1p 2 _ rfl
    have a3 := blk_cell B1p 3 _ rfl
    have hkb := placeOf_ge (fun f : Int × List Int × Int => f.1 == id) s.files
    have hk1 : kk < (s.files.length : Int) := by rw [HKk.out]; exact hkb.2
    have hk0 : 0 ≤ kk := by
      rw [HKk.out]
      refine (file_iff s.files id).2 ?_
      rw [HId.out]
      have e9 : nameAt s.names i = s.names[i] := by simp [nameAt, List.getD, hil]
      rw [e9]
      exact HG.out.names.ids _ (List.getElem_mem hil)
    obtain ⟨k, hk⟩ : ∃ k : Nat, kk = (k : Int) := ⟨kk.toNat, by omega⟩
    subst hk
    have hkl : k < s.files.length := by omega
    have HFil : Hid (filR s ⟨2, name, dest, data⟩ = k) := by
      unfold Hid filR
      simp only
      rw [HFi.out, ← HId.out, ← HKk.out]
      exact Int.toNat_natCast k
    rw [HFil.out] at HR
    clear hkb HFil HKk
    obtain ⟨him, ⟨g, rfl⟩, e2, au, cu, eu⟩ := HO2.out.rowAt k hkl
    have hii : (k : Int) < (m.length : Int) := by omega
    have q1 := blk_cell HO2.out.2.1 1 _ rfl
    obtain ⟨k0, k1, k2, fz⟩ := HO2.out.cells3 k him
    rw [eu] at k1
    have hmem : m.getD k noF ∈ m := by simp [List.getD, him]
    have hrow := HO2.out.2.2.2.1.2.1 _ hmem
    have f1 := fz (k * 3 + 1)
    have hdl : (fileD s k).2.1.length ≤ 140737488355328 := by
      have := hrow.2.2.1
      rw [e2] at this
      exact this
    have hcap1 := HG.out.cap1
    have hcap0 := HG.out.cap0
    have hup := used_pos s.files
    have huc := HG.out.used
    obtain ⟨us, hus⟩ : ∃ us, us = usedOf s.files := ⟨_, rfl⟩
    have HUs : Hid (us = usedOf s.files) := hus
    rw [← hus] at hup huc HR
    clear hus
    have hwr : IntKind.i64.wrap (s.cap - us) = s.cap - us := by rw [IntKind.wrap_i64]; omega
    have HFW : Hid (FilesW wp (.slice (some ⟨g, 0, none⟩) m.length cf3) s.files) := by
      unfold Hid
      rw [← HO2.out.2.2.1]
      exact FilesW.ownG HO2.out.2.2.2.1
    obtain ⟨t0, t1, t2, t3, t4⟩ := box_cells HO2.out.2.1
    have p0 := cell_up t0
    have p1 := cell_up t1
    have p2 := cell_up t2
    have p3 := cell_up t3
    have p4 := cell_up t4
    have pa := cell_up a3
    have HCU : Hid (∀ p : UpW wp, Calls Try.prog 41 #[.agg #[.int .i64 s.cap, .slice (some ⟨g, 0, none⟩) m.length cf3, .slice (some ⟨b, off, none⟩) s.names.length cn3, .slice as3 s.safe.length cs3, .int .i64 s.next]] p.val fun e w' => e = .returned (.int .i64 us) ∧ Below p.val.heap.size p.val w') := by
      intro p
      rw [HUs.out]
      refine (refUsed_any s.files _ _ _ _ _ p.val (HFW.out.up p.up) hfew).mono ?_
      rintro e w' ⟨rfl, rfl⟩
      exact ⟨rfl, up_alloc _ _⟩
    go_upto_region 26 with fail
    refine wp_region_up (by kernel_rfl) (by kernel_rfl) ?_
    repeat
      (with_reducible refine wpQuiet_step (fun K hK => ?_)
       go_simp
       first
         | (refine hK _ ?_; clear hK K)
         | (apply Exists.intro; refine ⟨fun _ => ?_, hK _ ?_⟩; go_at_call 41; with_reducible refine calls_up (HCU.out _); clear hK K))
    with_reducible refine wpQuiet_nil ?_
    intro _ hw'
    obtain ⟨p, hw''⟩ := hw'
    subst hw''
    have HO3 : Hid (OpenT p.val w1.heap.size T s (some ⟨g, 0, none⟩) cf3 (some ⟨b, off, none⟩) cn3 as3 cs3 m) := HO2.out.up p.up
    have B1q := blk_up B1p p.up
    have B2q := blk_up B2p p.up
    have UQ : Hid (Below w.heap.size w p.val) := up_trans UP.out p.up
    have hbq : w1.heap.size ≤ p.val.heap.size := Nat.le_trans hbp p.up.size
    have HDq : Hid (Octs p.val (.slice ad data.length cd) data) := HDp.out.up p.up
    have q1' := cell_up q1 p
    have k1' := cell_up k1 p
    have f1' : p.val.frozen? ⟨g, k * 3 + 1, none⟩ = false := (HO3.out.cells3 k him).2.2.2 _
    clear HCU p0 p1 p2 p3 p4 pa t0 t1 t2 t3 t4 a0 a1 a2 a3 q1 k0 k1 k2 fz f1 HFW B1p B2p HDp
    have UP := UQ
    have B2p := B2q
    have hbp := hbq
    clear UQ B2q hbq
    generalize p.val = wq at *
    clear p
    by_cases hfull : s.cap - us < (data.length : Int)
    · rw [if_pos hfull] at HR
      obtain ⟨x0, x1, x2, x3, x4⟩ := box_cells B2p
      have f0 := blk_frozen B2p 0
      have f1 := blk_frozen B2p 1
      have f2 := blk_frozen B2p 2
      have f3 := blk_frozen B2p 3
      have f4 := blk_frozen B2p 4
      have b5 := set5_blk B2p (.int .i64 0) (.slice none 0 0) (.slice none 0 0) (.slice none 0 0) (.int .i64 0)
      clear B2p
      go_wp2_with fail
      refine bodyPost_ret (results_docs1 rfl _ _ rfl rfl b5) rfl ?_
      rw [HR.out]
      exact ⟨_, rfl, OwnU.zero _ _ 0 0 in64_0 in64_0, UP.out.grown (set5_grown _ _ _ _ _ _ _) UP.out.size (fun j hj => by injection hj with hj; rw [← hj, HN.out]; omega)⟩
    · rw [if_neg hfull] at HR
      have q1 := q1'
      have k1 := k1'
      have f1 := f1'
      clear q1' k1' f1'
      have a3 := blk_cell B1q 3 _ rfl
      have hrow := HO3.out.2.2.2.1.2.1 _ hmem
      have hle : ((fileD s k).2.1.length : Int) ≤ us := by
        rw [HUs.out]
        exact used_ge s.files k hkl
      have ho := hrow.1
      rw [eu, e2] at ho
      obtain ⟨v', w5, hr, ho5, hg5, hn5⟩ := run_append_octs_near wq.drew 26 w1.heap.size _ _ _ data (show OwnB wq.drew w1.heap.size _ _ from ho) (show Octs wq.drew _ _ from HDq.out) (by omega) hbp
      have hoct : ∀ x ∈ (fileD s k).2.1 ++ data, 0 ≤ x ∧ x ≤ 255 := by
        intro x hx
        rcases List.mem_append.1 hx with q | q
        · have := hrow.2.1
          rw [e2] at this
          exact this x q
        · exact HDq.out.1 x q
      obtain ⟨a5, c5, e5, _⟩ := (Octs.own ho5 hoct).slice
      subst e5
      have hG : wq.grownBy w5 (Value.ownBlock (.slice au (fileD s k).2.1.length cu)) := ⟨hg5.os, hg5.tape, hg5.output, hg5.size, hg5.block⟩
      have hg6 : wq.grownBy w5 (m.getD k noF).1.ownBlock := by rw [eu]; exact hG
      have hn6 : Near wq (m.getD k noF).1 (.slice a5 ((fileD s k).2.1 ++ data).length c5) := by rw [eu]; exact hn5
      have hsf := HO3.out.2.2.2.1.data rfl k him ho5 hg6 hn6 ⟨hoct, by rw [List.length_append]; omega⟩
      have hst := HO3.out.setFile hbp k him hg6 (.inr rfl) _ _ _ hsf
      rw [e2] at hst
      have HS0 : Hid (OwnT (w5.setCell ⟨g, k * 3 + 1, none⟩ (.slice a5 ((fileD s k).2.1 ++ data).length c5)) w1.heap.size T { s with files := s.files.set k ((fileD s k).1, (fileD s k).2.1 ++ data, (fileD s k).2.2) } ∧ Beside w1.heap.size T wq (w5.setCell ⟨g, k * 3 + 1, none⟩ (.slice a5 ((fileD s k).2.1 ++ data).length c5))) := hst
      have nG : ¬ g = T := by
        have := own_blk_ne HO3.out.2.2.2.1.1.2 HO3.out.2.1 (by decide)
        simp [Value.ownBlock] at this
        exact this
      have nG2 : ¬ T = g := fun e => nG e.symm
      have nA : ¬ g = N + 1 := by
        have h1 := (HO3.out.2.2.2.1.1.2.lt g rfl).1
        have h2 := HB1.out
        omega
      have nA2 : ¬ N + 1 = g := fun e => nA e.symm
      have nD : ∀ x, (m.getD k noF).1.ownBlock = some x → w1.heap.size ≤ x := fun x hx => (hrow.1.lt x hx).1
      have hbT : w5.heap[T]? = some (.cells #[.int .i64 s.cap, .slice (some ⟨g, 0, none⟩) m.length cf3, .slice (some ⟨b, off, none⟩) s.names.length cn3, .slice as3 s.safe.length cs3, .int .i64 s.next] 25) := by
        refine blk_grown HO3.out.2.1 hg6 ?_
        intro q
        have := own_blk_ne hrow.1 HO3.out.2.1 (by decide)
        rcases this with r | r
        · rw [r] at q; cases q
        · exact r q.symm
      have z1 := blk_cell hbT 1 _ rfl
      have z4 : w5.cell? ⟨N + 1, 3, none⟩ = some (.slice ad data.length cd) := by
        refine hg6.cell a3 ?_
        intro q
        have h1 := nD _ q.symm
        have h2 := HB1.out
        simp at h1
        omega
      have zne : some g ≠ (m.getD k noF).1.ownBlock := by
        have := own_own_ne HO3.out.2.2.2.1.1.2 hrow.1 (by decide)
        rcases this with r | r
        · simp [Value.ownBlock] at r
        · exact r
      have z2 : w5.cell? ⟨g, k * 3 + 1, none⟩ = some (.slice au (fileD s k).2.1.length cu) := hg6.cell k1 zne
      have z3 : w5.frozen? ⟨g, k * 3 + 1, none⟩ = false := by
        have hR3 := HO3.out.2.2.2.1.1.far hg6 (own_own_ne HO3.out.2.2.2.1.1.2 hrow.1 (by decide))
        obtain ⟨cur, hh, _⟩ := hR3.blk
        exact blk_frozen hh _
      have bT : (w5.setCell ⟨g, k * 3 + 1, none⟩ (.slice a5 ((fileD s k).2.1 ++ data).length c5)).heap[T]? = some (.cells #[.int .i64 s.cap, .slice (some ⟨g, 0, none⟩) m.length cf3, .slice (some ⟨b, off, none⟩) s.names.length cn3, .slice as3 s.safe.length cs3, .int .i64 s.next] 25) := blk_other hbT nG2 _
      obtain ⟨S2, hS2⟩ : ∃ S2, S2 = { s with files := s.files.set k ((fileD s k).1, (fileD s k).2.1 ++ data, (fileD s k).2.2) } := ⟨_, rfl⟩
      rw [← hS2] at HR HS0
      have HS2 : Hid (S2 = { s with files := s.files.set k ((fileD s k).1, (fileD s k).2.1 ++ data, (fileD s k).2.2) }) := hS2
      have HL6 : Hid (S2.files.length ≤ 257) := by
        rw [HS2.out]
        show (s.files.set _ _).length ≤ 257
        rw [List.length_set]
        omega
      clear hsf hst e2 eu hrow ho ho5 hg5 hn5 hG hg6 hn6 zne hmem hS2 hbT nD hoct HO3
      rw [List.length_append] at hr HS0 bT
      generalize hfd9 : (fileD s k).2.1.length = dl at *
      clear hfd9
      go_upto_region 28 with fail
      refine wp_region_held_drew (S := (fun w' => w'.cell? ⟨T, 1, none⟩ = some (.slice (some ⟨g, 0, none⟩) m.length cf3) ∧ w'.cell? ⟨N + 1, 3, none⟩ = some (.slice ad data.length cd))) (by kernel_rfl) (by (try dsimp only); first | with_reducible exact ⟨z1, z4⟩ | (simp [go_sem, q1, a3]; done) | (simp [go_sem, z1, z4, nG, nG2, nA, nA2]; done)) (fun hHeld => ?_)
      refine wpAnyH_take (i := 0) (v := ?_) rfl (by kernel_rfl) (by kernel_rfl) (by kernel_rfl) (fun _ _ _ h => h) (Or.inl ⟨by kernel_rfl, ?_⟩) (by assumption) ?_
      rotate_left
      focus (intro w hSw; (try dsimp only at hSw); go_simp; (try with_reducible rfl); done)
      try simp only [Act.put, List.getElem_toArray, List.getElem_cons_zero, List.getElem_cons_succ, List.setIfInBounds_toArray, List.set_cons_zero, List.set_cons_succ]
      refine wpAnyH_take (i := 1) (v := ?_) rfl (by kernel_rfl) (by kernel_rfl) (by kernel_rfl) (fun _ _ _ h => h) (Or.inl ⟨by kernel_rfl, ?_⟩) (by assumption) ?_
      rotate_left
      focus (intro w hSw; (try dsimp only at hSw); go_simp; (try with_reducible rfl); done)
      try simp only [Act.put, List.getElem_toArray, List.getElem_cons_zero, List.getElem_cons_succ, List.setIfInBounds_toArray, List.set_cons_zero, List.set_cons_succ]
      refine wpAnyH_take (i := 2) (v := ?_) rfl (by kernel_rfl) (by kernel_rfl) (by kernel_rfl) (fun _ _ _ h => h) (Or.inl ⟨by kernel_rfl, ?_⟩) (by assumption) ?_
      rotate_left
      focus (intro w hSw; (try dsimp only at hSw); go_simp; (try with_reducible rfl); done)
      try simp only [Act.put, List.getElem_toArray, List.getElem_cons_zero, List.getElem_cons_succ, List.setIfInBounds_toArray, List.set_cons_zero, List.set_cons_succ]
      refine wpAnyH_take (i := 3) (v := ?_) rfl (by kernel_rfl) (by kernel_rfl) (by kernel_rfl) (fun _ _ _ h => h) (Or.inl ⟨by kernel_rfl, ?_⟩) (by assumption) ?_
      rotate_left
      focus (intro w hSw; (try dsimp only at hSw); go_simp; (try with_reducible rfl); done)
      try simp only [Act.put, List.getElem_toArray, List.getElem_cons_zero, List.getElem_cons_succ, List.setIfInBounds_toArray, List.set_cons_zero, List.set_cons_succ]
      refine wpAnyH_take (i := 4) (v := ?_) rfl (by kernel_rfl) (by kernel_rfl) (by kernel_rfl) (fun _ _ _ h => h) (Or.inl ⟨by kernel_rfl, ?_⟩) (by assumption) ?_
      rotate_left
      focus (intro w hSw; (try dsimp only at hSw); go_simp; (try with_reducible rfl); done)
      try simp only [Act.put, List.getElem_toArray, List.getElem_cons_zero, List.getElem_cons_succ, List.setIfInBounds_toArray, List.set_cons_zero, List.set_cons_succ]
      refine wpAnyH_take (i := 5) (v := ?_) rfl (by kernel_rfl) (by kernel_rfl) (by kernel_rfl) (fun _ _ _ h => h) (Or.inl ⟨by kernel_rfl, ?_⟩) (by assumption) ?_
      rotate_left
      focus (intro w hSw; (try dsimp only at hSw); go_simp; (try with_reducible rfl); done)
      try simp only [Act.put, List.getElem_toArray, List.getElem_cons_zero, List.getElem_cons_succ, List.setIfInBounds_toArray, List.set_cons_zero, List.set_cons_succ]
      refine wpAnyH_take (i := 6) (v := ?_) rfl (by kernel_rfl) (by kernel_rfl) (by kernel_rfl) (fun _ _ _ h => h) (Or.inl ⟨by kernel_rfl, ?_⟩) (by assumption) ?_
      rotate_left
      focus (intro w hSw; (try dsimp only at hSw); go_simp; (try with_reducible rfl); done)
      try simp only [Act.put, List.getElem_toArray, List.getElem_cons_zero, List.getElem_cons_succ, List.setIfInBounds_toArray, List.set_cons_zero, List.set_cons_succ]
      refine wpAnyH_take (i := 7) (v := ?_) rfl (by kernel_rfl) (by kernel_rfl) (by kernel_rfl) (fun _ _ _ h => h) (Or.inl ⟨by kernel_rfl, ?_⟩) (by assumption) ?_
      rotate_left
      focus (intro w hSw; (try dsimp only at hSw); go_simp; (try with_reducible rfl); done)
      try simp only [Act.put, List.getElem_toArray, List.getElem_cons_zero, List.getElem_cons_succ, List.setIfInBounds_toArray, List.set_cons_zero, List.set_cons_succ]
      refine wpAnyH_take (i := 9) (v := ?_) rfl (by kernel_rfl) (by kernel_rfl) (by kernel_rfl) (fun _ _ _ h => h) (Or.inl ⟨by kernel_rfl, ?_⟩) (by assumption) ?_
      rotate_left
      focus (intro w hSw; (try dsimp only at hSw); go_simp; (try with_reducible rfl); done)
      try simp only [Act.put, List.getElem_toArray, List.getElem_cons_zero, List.getElem_cons_succ, List.setIfInBounds_toArray, List.set_cons_zero, List.set_cons_succ]
      refine wpAnyH_take (i := 10) (v := ?_) rfl (by kernel_rfl) (by kernel_rfl) (by kernel_rfl) (fun _ _ _ h => h) (Or.inl ⟨by kernel_rfl, ?_⟩) (by assumption) ?_
      rotate_left
      focus (intro w hSw; (try dsimp only at hSw); go_simp; (try with_reducible rfl); done)
      try simp only [Act.put, List.getElem_toArray, List.getElem_cons_zero, List.getElem_cons_succ, List.setIfInBounds_toArray, List.set_cons_zero, List.set_cons_succ]
      refine wpAnyH_ready (rs := [8]) (by kernel_rfl) (by simp) ?_
      refine AllReadyH.cons rfl (fun K hK => ?_) AllReadyH.nil
      go_simp
      refine hK.out _ _ (by (try dsimp only); first | with_reducible exact ⟨z1, z4⟩ | (simp [go_sem, q1, a3]; done) | (simp [go_sem, z1, z4, nG, nG2, nA, nA2]; done)) (fun hHeld => ?_)
      clear hK K
      try simp only [Act.put, List.getElem_toArray, List.getElem_cons_zero, List.getElem_cons_succ, List.setIfInBounds_toArray, List.set_cons_zero, List.set_cons_succ]
      refine wpAnyH_ready (rs := [11]) (by kernel_rfl) (by simp) ?_
      refine AllReadyH.cons rfl (fun K hK => ?_) AllReadyH.nil
      refine step_known rfl (exec_append (d := .tmp 120) (s := .tmp 122) (t := 26) (t' := 26) rfl (by simp [Act.eval, Act.put]) (by simp [Act.eval, Act.put]) hr) ?_
      refine hK.out _ _ (by (try dsimp only); first | with_reducible exact ⟨z1, z4⟩ | (simp [go_sem, q1, a3]; done) | (simp [go_sem, z1, z4, nG, nG2, nA, nA2]; done)) (fun hHeld => ?_)
      clear hK K
      try simp only [Act.put, List.getElem_toArray, List.getElem_cons_zero, List.getElem_cons_succ, List.setIfInBounds_toArray, List.set_cons_zero, List.set_cons_succ]
      refine wpAnyH_take (i := 12) (v := ?_) rfl (by kernel_rfl) (by kernel_rfl) (by kernel_rfl) (fun _ _ _ h => h) (Or.inl ⟨by kernel_rfl, ?_⟩) (by assumption) ?_
      rotate_left
      focus (intro w hSw; (try dsimp only at hSw); go_simp; (try with_reducible rfl); done)
      try simp only [Act.put, List.getElem_toArray, List.getElem_cons_zero, List.getElem_cons_succ, List.setIfInBounds_toArray, List.set_cons_zero, List.set_cons_succ]
      refine wpAnyH_take (i := 13) (v := ?_) rfl (by kernel_rfl) (by kernel_rfl) (by kernel_rfl) (fun _ _ _ h => h) (Or.inl ⟨by kernel_rfl, ?_⟩) (by assumption) ?_
      rotate_left
      focus (intro w hSw; (try dsimp only at hSw); go_simp; (try with_reducible rfl); done)
      try simp only [Act.put, List.getElem_toArray, List.getElem_cons_zero, List.getElem_cons_succ, List.setIfInBounds_toArray, List.set_cons_zero, List.set_cons_succ]
      refine wpAnyH_ready (rs := [14]) (by kernel_rfl) (by simp) ?_
      refine AllReadyH.cons rfl (fun K hK => ?_) AllReadyH.nil
      go_simp
      refine hK.out _ _ (by (try dsimp only); first | with_reducible exact ⟨z1, z4⟩ | (simp [go_sem, q1, a3]; done) | (simp [go_sem, z1, z4, nG, nG2, nA, nA2]; done)) (fun hHeld => ?_)
      clear hK K
      try simp only [Act.put, List.getElem_toArray, List.getElem_cons_zero, List.getElem_cons_succ, List.setIfInBounds_toArray, List.set_cons_zero, List.set_cons_succ]
      refine wpAnyH_done (by kernel_rfl) ?_ _
      have HS : Hid (OwnT (w5.setCell ⟨g, k * 3 + 1, none⟩ (.slice a5 (dl + data.length) c5)) w1.heap.size T S2 ∧ Beside w1.heap.size T wq (w5.setCell ⟨g, k * 3 + 1, none⟩ (.slice a5 (dl + data.length) c5))) := HS0
      clear q1 k1 f1 a3 z1 z2 z3 z4 HS0 hr hHeld
      generalize w5.setCell ⟨g, k * 3 + 1, none⟩ (.slice a5 (dl + data.length) c5) = wc at *
      obtain ⟨y0, y1, y2, y3, y4⟩ := box_cells bT
      have OU6 : Hid (OwnU wc w1.heap.size _ S2) := HS.out.1.at bT
      have bR6 : Hid (wc.heap[N + 2]? = some (.cells #[.int .i64 0, .slice none 0 0, .slice none 0 0, .slice none 0 0, .int .i64 0] 25)) := HS.out.2.low HTb.out (by have := HB1.out; omega) B2p
      have U6 : Hid (Below w.heap.size w wc) := UP.out.trans ((HS.out.2.below HTb.out).mono U1.out.size)
      have hb6 : w1.heap.size ≤ wc.heap.size := Nat.le_trans hbp HS.out.2.size
      clear bT
      clear HS2
      go_wp2_with fail
      refine (refSwept_any S2 w1.heap.size _ _ OU6.out HL6.out hb6).mono ?_
      rintro e w7 ⟨v7, rfl, ou7, u7⟩
      obtain ⟨a7, n7, c7, a8, n8, c8, a9, n9, c9, ev7⟩ := ou7.shape
      subst ev7
      have bR7 := blk_up bR6.out u7
      have U7 : Hid (Below w.heap.size w w7) := up_trans U6.out u7
      have HO7 : Hid (OwnU w7 w1.heap.size (.agg #[.int .i64 (sweptOf S2).cap, .slice a7 n7 c7, .slice a8 n8 c8, .slice a9 n9 c9, .int .i64 (sweptOf S2).next]) (sweptOf S2)) := ou7
      clear ou7 u7
      obtain ⟨x0, x1, x2, x3, x4⟩ := box_cells bR7
      have f0 := blk_frozen bR7 0
      have f1 := blk_frozen bR7 1
      have f2 := blk_frozen bR7 2
      have f3 := blk_frozen bR7 3
      have f4 := blk_frozen bR7 4
      have b5 := set5_blk bR7 (.int .i64 (sweptOf S2).cap) (.slice a7 n7 c7) (.slice a8 n8 c8) (.slice a9 n9 c9) (.int .i64 (sweptOf S2).next)
      have HV5 : Hid (OwnU (set5 w7 (N + 2) (.int .i64 (sweptOf S2).cap) (.slice a7 n7 c7) (.slice a8 n8 c8) (.slice a9 n9 c9) (.int .i64 (sweptOf S2).next)) w1.heap.size (.agg #[.int .i64 (sweptOf S2).cap, .slice a7 n7 c7, .slice a8 n8 c8, .slice a9 n9 c9, .int .i64 (sweptOf S2).next]) (sweptOf S2)) := (HO7.out.put bR7).2
      clear bR7
      go_wp2_with fail
      refine bodyPost_ret (results_docs1 rfl _ _ rfl rfl b5) rfl ?_
      rw [HR.out]
      exact ⟨_, rfl, HV5.out.mono U1.out.size, U7.out.grown (set5_grown _ _ _ _ _ _ _) U7.out.size (fun j hj => by injection hj with hj; rw [← hj, HN.out]; omega)⟩

end Go.Proofs.Ytoceddpjkodfkaa

/- The document's Do: a file renamed. -/
namespace Go.Proofs.Ytoceddpjkodfkaa
open Go.RowKit
set_option linter.unusedVariables false
set_option linter.unusedSimpArgs false

set_option maxHeartbeats 8000000 in
set_option maxRecDepth 4000 in
theorem refDo_four (s : St) (a : Ac) (v va : Value) (w : World) (hv : StW w v s) (ha : AcW w va a) (hc : checkP s = true) (hw : a.what = 4) :
    Calls Try.prog 12 #[v, va] w fun e w' => ∃ v', e = .returned (.tuple #[v', .int .i64 (doR s a).2]) ∧ OwnU w' w.heap.size v' (doR s a).1 ∧ Below w.heap.size w w' := by
  have HRn : Hid (findOf s.names a.name < 0 → doR s a = (z0, 71)) := by
    intro h
    unfold doR
    rw [if_neg (by rw [hc]; decide), if_neg (by omega), if_neg (by omega), if_neg (by omega), if_pos h]
  have HRp : Hid (¬ findOf s.names a.name < 0 → Hid (doR s a = (if mayOf a.dest = false then (z0, 31) else if a.dest = a.name then (sweptOf s, 0) else (sweptOf { s with names := withOf (withoutOf (withoutOf s.names a.name) a.dest) (a.dest, (nameAt s.names (findOf s.names a.name).toNat).2) }, 0)))) := by
    intro h
    unfold Hid doR
    rw [if_neg (by rw [hc]; decide), if_neg (by omega), if_neg (by omega), if_neg (by omega), if_neg h]
    rw [if_neg (by omega), if_neg (by omega), if_pos hw]
  obtain ⟨af, cf, an, cn, as', cs', rfl⟩ := hv.form
  obtain ⟨what, name, dest, data⟩ := a
  obtain ⟨vd, rfl, hd, hok⟩ := ha
  obtain ⟨ad, cd, evd, _⟩ := hd.slice
  simp only at evd hd hok
  subst evd
  unfold okAc at hok
  simp only at hok
  obtain ⟨ho1, ho2, ho3, ho4, ho5, ho6⟩ := hok
  simp only at hw
  subst hw
  simp only
  have HV : Hid (StW w (.agg #[.int .i64 s.cap, .slice af s.files.length cf, .slice an s.names.length cn, .slice as' s.safe.length cs', .int .i64 s.next]) s) := hv
  have HD : Hid (Octs w (.slice ad data.length cd) data) := hd
  have HN1 : Hid (OctL name ∧ name.length ≤ 140737488355328) := ⟨ho2, ho3⟩
  have HN2 : Hid (OctL dest ∧ dest.length ≤ 140737488355328) := ⟨ho4, ho5⟩
  obtain ⟨N, hN⟩ : ∃ N, N = w.heap.size := ⟨_, rfl⟩
  obtain ⟨wx, hwx⟩ : ∃ wx, wx = ((w.alloc (.cells #[.int .i64 s.cap, .slice af s.files.length cf, .slice an s.names.length cn, .slice as' s.safe.length cs', .int .i64 s.next] 25)).alloc (.cells #[.int .i64 4, .string (strOfNums name), .string (strOfNums dest), .slice ad data.length cd] 28)).alloc (.cells #[.int .i64 0, .slice none 0 0, .slice none 0 0, .slice none 0 0, .int .i64 0] 25) := ⟨_, rfl⟩
  have HWx : Hid (((w.alloc (.cells #[.int .i64 s.cap, .slice af s.files.length cf, .slice an s.names.length cn, .slice as' s.safe.length cs', .int .i64 s.next] 25)).alloc (.cells #[.int .i64 4, .string (strOfNums name), .string (strOfNums dest), .slice ad data.length cd] 28)).alloc (.cells #[.int .i64 0, .slice none 0 0, .slice none 0 0, .slice none 0 0, .int .i64 0] 25) = wx) := hwx.symm
  have b0 : wx.heap[N]? = some (.cells #[.int .i64 s.cap, .slice af s.files.length cf, .slice an s.names.length cn, .slice as' s.safe.length cs', .int .i64 s.next] 25) := by rw [hwx, hN]; exact blk_up (blk_two0 w _ _) (up_al (Below.refl _ _) _)
  have b1 : wx.heap[N + 1]? = some (.cells #[.int .i64 4, .string (strOfNums name), .string (strOfNums dest), .slice ad data.length cd] 28) := by rw [hwx, hN]; exact blk_up (blk_two1 w _ _) (up_al (Below.refl _ _) _)
  have b2 : wx.heap[N + 2]? = some (.cells #[.int .i64 0, .slice none 0 0, .slice none 0 0, .slice none 0 0, .int .i64 0] 25) := by
    rw [hwx, hN]
    have := blk_new ((w.alloc (.cells #[.int .i64 s.cap, .slice af s.files.length cf, .slice an s.names.length cn, .slice as' s.safe.length cs', .int .i64 s.next] 25)).alloc (.cells #[.int .i64 4, .string (strOfNums name), .string (strOfNums dest), .slice ad data.length cd] 28)) (.cells #[.int .i64 0, .slice none 0 0, .slice none 0 0, .slice none 0 0, .int .i64 0] 25)
    simpa using this
  have UX : Hid (Below w.heap.size w wx) := by rw [hwx]; exact up_al (up_al (up_al (Below.refl _ _) _) _) _
  have HN : Hid (N = w.heap.size) := hN
  clear hv hd hwx
  go_enter Try.func12, Try.ntmps12
  go_wp2_with fail
  rw [HWx.out, ← hN]
  clear HWx hN
  refine (refCheck_any s _ wx (HV.out.up UX.out)).mono ?_
  rintro e w1 ⟨rfl, u⟩
  have U1 : Hid (Below w.heap.size w w1) := up_trans UX.out u
  have B0 := blk_up b0 u
  have B1 := blk_up b1 u
  have B2 := blk_up b2 u
  clear b0 b1 b2 u UX
  have HG : Hid (Good s) := check_good hc
  rw [hc]
  have e0 : errOf true = 0 := rfl
  rw [e0]
  clear e0
  obtain ⟨q0, q1, q2, q3, q4⟩ := box_cells B0
  have a0 := blk_cell B1 0 _ rfl
  have a1 := blk_cell B1 1 _ rfl
  have a2 := blk_cell B1 2 _ rfl
  have a3 := blk_cell B1 3 _ rfl
  have hfew := HG.out.few
  have hn1 := few_names HG.out.names
  have hn2 := few_names HG.out.safe
  go_wp2_with fail
  refine (refOwn_any s _ w1 (HV.out.up U1.out) hfew (by omega) (by omega)).mono ?_
  rintro e w2 ⟨v2, rfl, ou, u⟩
  obtain ⟨a2f, c2f, a2n, c2n, a2s, c2s, rfl⟩ := (StW.ownU ou).form
  have OT : Hid (OwnT (w2.alloc (.cells #[.int .i64 s.cap, .slice a2f s.files.length c2f, .slice a2n s.names.length c2n, .slice a2s s.safe.length c2s, .int .i64 s.next] 25)) w1.heap.size w2.heap.size s) := ou.laid
  have U2 : Hid (Below w1.heap.size w1 w2) := u
  have U3 : Hid (Below w1.heap.size w1 (w2.alloc (.cells #[.int .i64 s.cap, .slice a2f s.files.length c2f, .slice a2n s.names.length c2n, .slice a2s s.safe.length c2s, .int .i64 s.next] 25))) := up_al u _
  have T0 : (w2.alloc (.cells #[.int .i64 s.cap, .slice a2f s.files.length c2f, .slice a2n s.names.length c2n, .slice a2s s.safe.length c2s, .int .i64 s.next] 25)).heap[w2.heap.size]? = some (.cells #[.int .i64 s.cap, .slice a2f s.files.length c2f, .slice a2n s.names.length c2n, .slice a2s s.safe.length c2s, .int .i64 s.next] 25) := blk_new _ _
  have B1' := blk_up B1 U3.out
  have B2' := blk_up B2 U3.out
  have B0n := B2
  clear ou u B1 B2 B0 q0 q1 q2 q3 q4 a0 a1 a2 a3
  have t2 := blk_cell T0 2 _ rfl
  have a1 := blk_cell B1' 1 _ rfl
  go_wp2_with fail
  generalize w2.alloc (.cells #[.int .i64 s.cap, .slice a2f s.files.length c2f, .slice a2n s.names.length c2n, .slice a2s s.safe.length c2s, .int .i64 s.next] 25) = w3 at *
  have HNm : Hid (NamesW w3 (.slice a2n s.names.length c2n) s.names) := by
    obtain ⟨vf, vn, vs, hb, ou⟩ := OT.out.take
    rw [hb] at T0
    simp at T0
    obtain ⟨rfl, rfl, rfl⟩ := T0
    obtain ⟨_, _, _, _, e, _, _, on, _⟩ := ou
    simp at e
    obtain ⟨rfl, rfl, rfl⟩ := e
    exact NamesW.own on
  refine (refFind_any s.names name HN1.out.1 _ w3 HNm.out).mono ?_
  rintro e w4 ⟨rfl, hw4⟩
  have hw4' : w3 = w4 := hw4.symm
  clear hw4
  subst hw4'
  have U03 : Hid (Below w.heap.size w w3) := up_trans U1.out U3.out
  obtain ⟨T, hT⟩ : ∃ T, T = w2.heap.size := ⟨_, rfl⟩
  rw [← hT] at OT T0 t2 ⊢
  have HTb : Hid (w1.heap.size ≤ T) := by rw [hT]; exact U2.out.size
  clear hT U2
  have HB1 : Hid (N + 3 ≤ w1.heap.size) := by
    have := blk_lt B0n
    unfold Hid
    omega
  clear B0n
  have hb3 : w1.heap.size ≤ w3.heap.size := U3.out.size
  obtain ⟨fd, hfd⟩ : ∃ fd, fd = findOf s.names name := ⟨_, rfl⟩
  have HFd : Hid (fd = findOf s.names name) := hfd
  rw [← hfd]
  clear hfd t2 a1
  have hfd1 := (placeOf_ge (fun p => decide (p.1 = name)) s.names)
  have hfd2 : -1 ≤ fd ∧ fd < (s.names.length : Int) := by rw [HFd.out]; exact hfd1
  clear hfd1
  obtain ⟨hfd1, hfd2⟩ := hfd2
  have a0 := blk_cell B1' 0 _ rfl
  by_cases hneg : fd < 0
  · have HR : Hid (doR s ⟨4, name, dest, data⟩ = (z0, 71)) := HRn.out (by rw [← HFd.out]; exact hneg)
    obtain ⟨x0, x1, x2, x3, x4⟩ := box_cells B2'
    have f0 := blk_frozen B2' 0
    have f1 := blk_frozen B2' 1
    have f2 := blk_frozen B2' 2
    have f3 := blk_frozen B2' 3
    have f4 := blk_frozen B2' 4
    have b5 := set5_blk B2' (.int .i64 0) (.slice none 0 0) (.slice none 0 0) (.slice none 0 0) (.int .i64 0)
    clear B2'
    go_wp2_with fail
    refine bodyPost_ret (results_docs1 rfl _ _ rfl rfl b5) rfl ?_
    rw [HR.out]
    exact ⟨_, rfl, OwnU.zero _ _ 0 0 in64_0 in64_0, U03.out.grown (set5_grown _ _ _ _ _ _ _) U03.out.size (fun j hj => by injection hj with hj; rw [← hj, HN.out]; omega)⟩
  · obtain ⟨i, hi⟩ : ∃ i : Nat, fd = (i : Int) := ⟨fd.toNat, by omega⟩
    subst hi
    have hil : i < s.names.length := by omega
    have hi0 : (0 : Int) ≤ (i : Int) := by omega
    have HR := HRp.out (by rw [← HFd.out]; omega)
    have HFi : Hid ((findOf s.names name).toNat = i) := by rw [← HFd.out]; exact Int.toNat_natCast i
    obtain ⟨af3, cf3, an3, cn3, as3, cs3, m, hO⟩ := OT.out.open
    obtain ⟨b, off, cap', e, _, _, c0, c1, _⟩ := (NamesW.own hO.2.2.2.2.1).at i hil
    simp at e
    obtain ⟨rfl, rfl⟩ := e
    have HO : Hid (OpenT w3 w1.heap.size T s af3 cf3 (some ⟨b, off, none⟩) cn3 as3 cs3 m) := hO
    obtain ⟨id, hid⟩ : ∃ id, id = (s.names.getD i ([], 0)).2 := ⟨_, rfl⟩
    have HId : Hid (id = (nameAt s.names i).2) := hid
    rw [← hid] at c1
    clear hid
    have HFW : Hid (FilesW w3 (.slice af3 m.length cf3) s.files) := by
      unfold Hid
      rw [← hO.2.2.1]
      exact FilesW.ownG hO.2.2.2.1
    obtain ⟨t0, t1, t2, t3, t4⟩ := box_cells hO.2.1
    have p0 := cell_up t0
    have p1 := cell_up t1
    have p2 := cell_up t2
    have p3 := cell_up t3
    have p4 := cell_up t4
    have pc := cell_up c1
    obtain ⟨kk, hkk⟩ : ∃ kk, kk = fileOf s.files id := ⟨_, rfl⟩
    have HKk : Hid (kk = fileOf s.files id) := hkk
    clear hkk
    have HCF : Hid (∀ p : UpW w3, Calls Try.prog 40 #[.agg #[.int .i64 s.cap, .slice af3 m.length cf3, .slice (some ⟨b, off, none⟩) s.names.length cn3, .slice as3 s.safe.length cs3, .int .i64 s.next], .int .i64 id] p.val fun e w' => e = .returned (.int .i64 kk) ∧ Below p.val.heap.size p.val w') := by
      intro p
      rw [HKk.out]
      refine (refFile_any s.files id _ _ _ _ _ p.val (HFW.out.up p.up)).mono ?_
      rintro e w' ⟨rfl, rfl⟩
      exact ⟨rfl, up_alloc _ _⟩
    clear hO t0 t1 t2 t3 t4 c0 c1
    go_wp2_with fail
    refine wp_region_up (by kernel_rfl) (by kernel_rfl) ?_
    repeat
      (with_reducible refine wpQuiet_step (fun K hK => ?_)
       go_simp
       first
         | (refine hK _ ?_; clear hK K)
         | (apply Exists.intro; refine ⟨fun _ => ?_, hK _ ?_⟩; go_at_call 40; with_reducible refine calls_up (HCF.out _); clear hK K))
    with_reducible refine wpQuiet_nil ?_
    intro _ hw'
    obtain ⟨p, hw''⟩ := hw'
    subst hw''
    have HO2 : Hid (OpenT p.val w1.heap.size T s af3 cf3 (some ⟨b, off, none⟩) cn3 as3 cs3 m) := HO.out.up p.up
    have B1p := blk_up B1' p.up
    have B2p := blk_up B2' p.up
    have UP : Hid (Below w.heap.size w p.val) := up_trans U03.out p.up
    have hbp : w1.heap.size ≤ p.val.heap.size := Nat.le_trans hb3 p.up.size
    have hDp := HD.out.up UP.out
    have HDp : Hid (Octs p.val (.slice ad data.length cd) data) := hDp
    clear HCF p0 p1 p2 p3 p4 pc HO HFW OT B1' B2' a0 hDp T0 HNm
    generalize p.val = wp at *
    clear p
    have a0 := blk_cell B1p 0 _ rfl
    have a1 := blk_cell B1p 1 _ rfl
    have a2 := blk_cell B1p 2 _ rfl
    have a3 := blk_cell B1p 3 _ rfl
    clear a3
    rw [HFi.out, ← HId.out] at HR
    have hIid : In64 id := by
      have hn := (NamesW.own HO2.out.2.2.2.2.1).1
      have e9 : nameAt s.names i = s.names[i] := by simp [nameAt, List.getD, hil]
      rw [HId.out, e9]
      exact (hn _ (List.getElem_mem hil)).2.2
    obtain ⟨_, _, _, e8, _, _, _, c1, _⟩ := (NamesW.own HO2.out.2.2.2.2.1).at i hil
    simp at e8
    obtain ⟨⟨rfl, rfl⟩, rfl⟩ := e8
    have hid2 : (s.names.getD i ([], 0)).2 = id := HId.out.symm
    rw [hid2] at c1
    clear hid2
    have hii : (i : Int) < (s.names.length : Int) := by omega
    have t2 := blk_cell HO2.out.2.1 2 _ rfl
    have hm := refMay_any dest HN2.out.1 HN2.out.2 wp
    cases hmay : mayOf dest
    · rw [hmay] at hm
      rw [if_pos hmay] at HR
      clear hmay
      go_wp2_with fail
      refine hm.mono ?_
      rintro e wz ⟨rfl, rfl⟩
      clear hm t2 c1 a0 a1 a2
      obtain ⟨x0, x1, x2, x3, x4⟩ := box_cells B2p
      have f0 := blk_frozen B2p 0
      have f1 := blk_frozen B2p 1
      have f2 := blk_frozen B2p 2
      have f3 := blk_frozen B2p 3
      have f4 := blk_frozen B2p 4
      have b5 := set5_blk B2p (.int .i64 0) (.slice none 0 0) (.slice none 0 0) (.slice none 0 0) (.int .i64 0)
      clear B2p
      go_wp2_with fail
      refine bodyPost_ret (results_docs1 rfl _ _ rfl rfl b5) rfl ?_
      rw [HR.out]
      exact ⟨_, rfl, OwnU.zero _ _ 0 0 in64_0 in64_0, UP.out.grown (set5_grown _ _ _ _ _ _ _) UP.out.size (fun j hj => by injection hj with hj; rw [← hj, HN.out]; omega)⟩
    · rw [hmay] at hm
      rw [if_neg (by rw [hmay]; decide)] at HR
      clear hmay
      have HEq : Hid (((strOfNums dest).toList == (strOfNums name).toList) = decide (dest = name)) := str_eq dest name HN2.out.1 HN1.out.1
      by_cases hsame : dest = name
      · rw [if_pos hsame] at HR
        have hs1 : ((strOfNums dest).toList == (strOfNums name).toList) = true := by rw [HEq.out]; exact decide_eq_true hsame
        subst hsame
        go_wp2_with fail
        refine hm.mono ?_
        rintro e wz ⟨rfl, rfl⟩
        clear hm
        have OU6 : Hid (OwnU wz w1.heap.size (.agg #[.int .i64 s.cap, .slice af3 m.length cf3, .slice (some ⟨b, off, none⟩) s.names.length cn3, .slice as3 s.safe.length cs3, .int .i64 s.next]) s) := HO2.out.shut.at HO2.out.2.1
        have bR6 : Hid (wz.heap[N + 2]? = some (.cells #[.int .i64 0, .slice none 0 0, .slice none 0 0, .slice none 0 0, .int .i64 0] 25)) := B2p
        have U6 : Hid (Below w.heap.size w wz) := UP.out
        have hb6 : w1.heap.size ≤ wz.heap.size := hbp
        have HL6 : Hid (s.files.length ≤ 257) := by unfold Hid; omega
        obtain ⟨t0, t1, t2', t3, t4⟩ := box_cells HO2.out.2.1
        go_wp2_with fail
        refine (refSwept_any s w1.heap.size _ _ OU6.out HL6.out hb6).mono ?_
        rintro e w7 ⟨v7, rfl, ou7, u7⟩
        obtain ⟨a7, n7, c7, a8, n8, c8, a9, n9, c9, ev7⟩ := ou7.shape
        subst ev7
        have bR7 := blk_up bR6.out u7
        have U7 : Hid (Below w.heap.size w w7) := up_trans U6.out u7
        have HO7 : Hid (OwnU w7 w1.heap.size (.agg #[.int .i64 (sweptOf s).cap, .slice a7 n7 c7, .slice a8 n8 c8, .slice a9 n9 c9, .int .i64 (sweptOf s).next]) (sweptOf s)) := ou7
        clear ou7 u7
        obtain ⟨x0, x1, x2, x3, x4⟩ := box_cells bR7
        have f0 := blk_frozen bR7 0
        have f1 := blk_frozen bR7 1
        have f2 := blk_frozen bR7 2
        have f3 := blk_frozen bR7 3
        have f4 := blk_frozen bR7 4
        have b5 := set5_blk bR7 (.int .i64 (sweptOf s).cap) (.slice a7 n7 c7) (.slice a8 n8 c8) (.slice a9 n9 c9) (.int .i64 (sweptOf s).next)
        have HV5 : Hid (OwnU (set5 w7 (N + 2) (.int .i64 (sweptOf s).cap) (.slice a7 n7 c7) (.slice a8 n8 c8) (.slice a9 n9 c9) (.int .i64 (sweptOf s).next)) w1.heap.size (.agg #[.int .i64 (sweptOf s).cap, .slice a7 n7 c7, .slice a8 n8 c8, .slice a9 n9 c9, .int .i64 (sweptOf s).next]) (sweptOf s)) := (HO7.out.put bR7).2
        clear bR7
        go_wp2_with fail
        refine bodyPost_ret (results_docs1 rfl _ _ rfl rfl b5) rfl ?_
        rw [HR.out]
        exact ⟨_, rfl, HV5.out.mono U1.out.size, U7.out.grown (set5_grown _ _ _ _ _ _ _) U7.out.size (fun j hj => by injection hj with hj; rw [← hj, HN.out]; omega)⟩
      · rw [if_neg hsame] at HR
        have hs1 : ((strOfNums dest).toList == (strOfNums name).toList) = false := by rw [HEq.out]; exact decide_eq_false hsame
        have ud : Hid (Below wp.heap.size wp wp.drew) := up_dr (Below.refl _ _)
        have HB1p : Hid (wp.heap[N + 1]? = some (.cells #[.int .i64 4, .string (strOfNums name), .string (strOfNums dest), .slice ad data.length cd] 28)) := B1p
        have HC1 : Hid (Calls Try.prog 42 #[.slice (some ⟨b, off, none⟩) s.names.length cn3, .string (strOfNums name)] wp.drew fun e w' => ∃ a5 l5 c5, e = .returned (.slice a5 l5 c5) ∧ w'.cell? ⟨N + 1, 1, none⟩ = some (.string (strOfNums name)) ∧ w'.cell? ⟨N + 1, 2, none⟩ = some (.string (strOfNums dest)) ∧ Hid (NamesW w' (.slice a5 l5 c5) (withoutOf s.names name) ∧ Below wp.heap.size wp w')) := by
          refine (refWithout_any s.names name HN1.out.1 _ wp.drew (NamesW.own (HO2.out.up ud.out).2.2.2.2.1) (by omega)).mono ?_
          rintro e w' ⟨v', rfl, on, u⟩
          obtain ⟨a5, c5, e5, _, _⟩ := (NamesW.own on).len
          subst e5
          have uu := up_trans ud.out u
          have bb := blk_up HB1p.out uu
          exact ⟨_, _, _, rfl, blk_cell bb 1 _ rfl, blk_cell bb 2 _ rfl, NamesW.own on, uu⟩
        have hw1 : (withoutOf s.names name).length ≤ s.names.length := without_len _ _
        have hw2 : (withoutOf (withoutOf s.names name) dest).length ≤ (withoutOf s.names name).length := without_len _ _
        have HC2 : Hid (∀ X a5 l5 c5, NamesW X (.slice a5 l5 c5) (withoutOf s.names name) ∧ Below wp.heap.size wp X → Calls Try.prog 42 #[.slice a5 l5 c5, .string (strOfNums dest)] X fun e w' => ∃ a6 l6 c6, e = .returned (.slice a6 l6 c6) ∧ w'.cell? ⟨N + 1, 1, none⟩ = some (.string (strOfNums name)) ∧ w'.cell? ⟨N + 1, 2, none⟩ = some (.string (strOfNums dest)) ∧ Hid (NamesW w' (.slice a6 l6 c6) (withoutOf (withoutOf s.names name) dest) ∧ Below wp.heap.size wp w')) := by
          rintro X a5 l5 c5 ⟨hx, hu⟩
          refine (refWithout_any (withoutOf s.names name) dest HN2.out.1 _ X hx (by omega)).mono ?_
          rintro e w' ⟨v', rfl, on, u⟩
          obtain ⟨a6, c6, e6, _, _⟩ := (NamesW.own on).len
          subst e6
          have uu := up_trans hu u
          have bb := blk_up HB1p.out uu
          exact ⟨_, _, _, rfl, blk_cell bb 1 _ rfl, blk_cell bb 2 _ rfl, NamesW.own on, uu⟩
        have HC3 : Hid (∀ X a6 l6 c6, NamesW X (.slice a6 l6 c6) (withoutOf (withoutOf s.names name) dest) ∧ Below wp.heap.size wp X → Calls Try.prog 37 #[.slice a6 l6 c6, .agg #[.string (strOfNums dest), .int .i64 id]] X fun e w' => ∃ a7 l7 c7, e = .returned (.slice a7 l7 c7) ∧ w'.cell? ⟨N + 1, 1, none⟩ = some (.string (strOfNums name)) ∧ w'.cell? ⟨N + 1, 2, none⟩ = some (.string (strOfNums dest)) ∧ w'.cell? ⟨T, 2, none⟩ = some (.slice (some ⟨b, off, none⟩) s.names.length cn3) ∧ w'.frozen? ⟨T, 2, none⟩ = false ∧
            Hid (OwnT (w'.setCell ⟨T, 2, none⟩ (.slice a7 l7 c7)) w1.heap.size T { s with names := withOf (withoutOf (withoutOf s.names name) dest) (dest, id) } ∧ Beside w1.heap.size T wp (w'.setCell ⟨T, 2, none⟩ (.slice a7 l7 c7)) ∧ (w'.setCell ⟨T, 2, none⟩ (.slice a7 l7 c7)).heap[T]? = some (.cells #[.int .i64 s.cap, .slice af3 m.length cf3, .slice a7 l7 c7, .slice as3 s.safe.length cs3, .int .i64 s.next] 25))) := by
          rintro X a6 l6 c6 ⟨hx, hu⟩
          refine (refWith_any (withoutOf (withoutOf s.names name) dest) dest id ⟨HN2.out.1, HN2.out.2, hIid⟩ _ X hx (by omega)).mono ?_
          rintro e w' ⟨v', rfl, on, u⟩
          obtain ⟨a7, c7, e7, _, _⟩ := (NamesW.own on).len
          subst e7
          have uu := up_trans hu u
          have bb := blk_up HB1p.out uu
          have hXs := hu.size
          have st := HO2.out.setNames hbp (grown_up uu _) (.inr (fun g hg => by have := (on.2.2.lt g hg).1; omega)) (on.mono (by omega))
          exact ⟨_, _, _, rfl, blk_cell bb 1 _ rfl, blk_cell bb 2 _ rfl, blk_cell st.1 2 _ rfl, blk_frozen st.1 2, st.2.1, st.2.2, blk_set st.1 2 _⟩
        have nA : ¬ T = N + 1 := by have h1 := HTb.out; have h2 := HB1.out; omega
        have nA2 : ¬ N + 1 = T := fun e => nA e.symm
        go_wp2_with fail
        refine hm.mono ?_
        rintro e wz ⟨rfl, hwz⟩
        have hwz' : wp = wz := hwz.symm
        clear hwz hm
        subst hwz'
        go_upto_region 36 with fail
        refine wp_region_held_drew (S := (fun w' => w'.cell? ⟨N + 1, 1, none⟩ = some (.string (strOfNums name)) ∧ w'.cell? ⟨N + 1, 2, none⟩ = some (.string (strOfNums dest)))) (by kernel_rfl) (by (try dsimp only); first | with_reducible exact ⟨y1, y2⟩ | (simp [go_sem, a1, a2]; done) | (simp [go_sem, y1, y2, nA, nA2]; done)) (fun hHeld => ?_)
        refine wpAnyH_take (i := 0) (v := ?_) rfl (by kernel_rfl) (by kernel_rfl) (by kernel_rfl) (fun _ _ _ h => h) (Or.inl ⟨by kernel_rfl, ?_⟩) (by assumption) ?_
        rotate_left
        focus (intro w hSw; (try dsimp only at hSw); go_simp; (try with_reducible rfl); done)
        try simp only [Act.put, List.getElem_toArray, List.getElem_cons_zero, List.getElem_cons_succ, List.setIfInBounds_toArray, List.set_cons_zero, List.set_cons_succ]
        refine wpAnyH_take (i := 2) (v := ?_) rfl (by kernel_rfl) (by kernel_rfl) (by kernel_rfl) (fun _ _ _ h => h) (Or.inl ⟨by kernel_rfl, ?_⟩) (by assumption) ?_
        rotate_left
        focus (intro w hSw; (try dsimp only at hSw); go_simp; (try with_reducible rfl); done)
        try simp only [Act.put, List.getElem_toArray, List.getElem_cons_zero, List.getElem_cons_succ, List.setIfInBounds_toArray, List.set_cons_zero, List.set_cons_succ]
        refine wpAnyH_take (i := 3) (v := ?_) rfl (by kernel_rfl) (by kernel_rfl) (by kernel_rfl) (fun _ _ _ h => h) (Or.inl ⟨by kernel_rfl, ?_⟩) (by assumption) ?_
        rotate_left
        focus (intro w hSw; (try dsimp only at hSw); go_simp; (try with_reducible rfl); done)
        try simp only [Act.put, List.getElem_toArray, List.getElem_cons_zero, List.getElem_cons_succ, List.setIfInBounds_toArray, List.set_cons_zero, List.set_cons_succ]
        refine wpAnyH_take (i := 5) (v := ?_) rfl (by kernel_rfl) (by kernel_rfl) (by kernel_rfl) (fun _ _ _ h => h) (Or.inl ⟨by kernel_rfl, ?_⟩) (by assumption) ?_
        rotate_left
        focus (intro w hSw; (try dsimp only at hSw); go_simp; (try with_reducible rfl); done)
        try simp only [Act.put, List.getElem_toArray, List.getElem_cons_zero, List.getElem_cons_succ, List.setIfInBounds_toArray, List.set_cons_zero, List.set_cons_succ]
        refine wpAnyH_take (i := 6) (v := ?_) rfl (by kernel_rfl) (by kernel_rfl) (by kernel_rfl) (fun _ _ _ h => h) (Or.inl ⟨by kernel_rfl, ?_⟩) (by assumption) ?_
        rotate_left
        focus (intro w hSw; (try dsimp only at hSw); go_simp; (try with_reducible rfl); done)
        try simp only [Act.put, List.getElem_toArray, List.getElem_cons_zero, List.getElem_cons_succ, List.setIfInBounds_toArray, List.set_cons_zero, List.set_cons_succ]
        refine wpAnyH_take (i := 8) (v := ?_) rfl (by kernel_rfl) (by kernel_rfl) (by kernel_rfl) (fun _ _ _ h => h) (Or.inl ⟨by kernel_rfl, ?_⟩) (by assumption) ?_
        rotate_left
        focus (intro w hSw; (try dsimp only at hSw); go_simp; (try with_reducible rfl); done)
        try simp only [Act.put, List.getElem_toArray, List.getElem_cons_zero, List.getElem_cons_succ, List.setIfInBounds_toArray, List.set_cons_zero, List.set_cons_succ]
        refine wpAnyH_take (i := 9) (v := ?_) rfl (by kernel_rfl) (by kernel_rfl) (by kernel_rfl) (fun _ _ _ h => h) (Or.inl ⟨by kernel_rfl, ?_⟩) (by assumption) ?_
        rotate_left
        focus (intro w hSw; (try dsimp only at hSw); go_simp; (try with_reducible rfl); done)
        try simp only [Act.put, List.getElem_toArray, List.getElem_cons_zero, List.getElem_cons_succ, List.setIfInBounds_toArray, List.set_cons_zero, List.set_cons_succ]
        refine wpAnyH_take (i := 10) (v := ?_) rfl (by kernel_rfl) (by kernel_rfl) (by kernel_rfl) (fun _ _ _ h => h) (Or.inl ⟨by kernel_rfl, ?_⟩) (by assumption) ?_
        rotate_left
        focus (intro w hSw; (try dsimp only at hSw); go_simp; (try with_reducible rfl); done)
        try simp only [Act.put, List.getElem_toArray, List.getElem_cons_zero, List.getElem_cons_succ, List.setIfInBounds_toArray, List.set_cons_zero, List.set_cons_succ]
        refine wpAnyH_take (i := 11) (v := ?_) rfl (by kernel_rfl) (by kernel_rfl) (by kernel_rfl) (fun _ _ _ h => h) (Or.inl ⟨by kernel_rfl, ?_⟩) (by assumption) ?_
        rotate_left
        focus (intro w hSw; (try dsimp only at hSw); go_simp; (try with_reducible rfl); done)
        try simp only [Act.put, List.getElem_toArray, List.getElem_cons_zero, List.getElem_cons_succ, List.setIfInBounds_toArray, List.set_cons_zero, List.set_cons_succ]
        refine wpAnyH_ready (rs := [1]) (by kernel_rfl) (by simp) ?_
        refine AllReadyH.cons rfl (fun K hK => ?_) AllReadyH.nil
        go_simp
        refine hK.out _ _ (by (try dsimp only); first | with_reducible exact ⟨y1, y2⟩ | (simp [go_sem, a1, a2]; done) | (simp [go_sem, y1, y2, nA, nA2]; done)) (fun hHeld => ?_)
        clear hK K
        try simp only [Act.put, List.getElem_toArray, List.getElem_cons_zero, List.getElem_cons_succ, List.setIfInBounds_toArray, List.set_cons_zero, List.set_cons_succ]
        refine wpAnyH_ready (rs := [4]) (by kernel_rfl) (by simp) ?_
        refine AllReadyH.cons rfl (fun K hK => ?_) AllReadyH.nil
        go_simp
        refine HC1.out.mono ?_
        rintro e w5 ⟨a5, l5, c5, rfl, y1, y2, h5⟩
        go_wp2_with fail
        refine hK.out _ _ (by (try dsimp only); first | with_reducible exact ⟨y1, y2⟩ | (simp [go_sem, a1, a2]; done) | (simp [go_sem, y1, y2, nA, nA2]; done)) (fun hHeld => ?_)
        clear hK K
        try simp only [Act.put, List.getElem_toArray, List.getElem_cons_zero, List.getElem_cons_succ, List.setIfInBounds_toArray, List.set_cons_zero, List.set_cons_succ]
        refine wpAnyH_ready (rs := [7]) (by kernel_rfl) (by simp) ?_
        refine AllReadyH.cons rfl (fun K hK => ?_) AllReadyH.nil
        go_simp
        refine (HC2.out _ _ _ _ h5.out).mono ?_
        rintro e w6 ⟨a6, l6, c6, rfl, y1, y2, h6⟩
        go_wp2_with fail
        refine hK.out _ _ (by (try dsimp only); first | with_reducible exact ⟨y1, y2⟩ | (simp [go_sem, a1, a2]; done) | (simp [go_sem, y1, y2, nA, nA2]; done)) (fun hHeld => ?_)
        clear hK K
        try simp only [Act.put, List.getElem_toArray, List.getElem_cons_zero, List.getElem_cons_succ, List.setIfInBounds_toArray, List.set_cons_zero, List.set_cons_succ]
        refine wpAnyH_ready (rs := [12]) (by kernel_rfl) (by simp) ?_
        refine AllReadyH.cons rfl (fun K hK => ?_) AllReadyH.nil
        go_simp
        refine (HC3.out _ _ _ _ h6.out).mono ?_
        rintro e w7 ⟨a7, l7, c7, rfl, y1, y2, yt, yf, h7⟩
        go_wp2_with fail
        refine hK.out _ _ (by (try dsimp only); first | with_reducible exact ⟨y1, y2⟩ | (simp [go_sem, a1, a2]; done) | (simp [go_sem, y1, y2, nA, nA2]; done)) (fun hHeld => ?_)
        clear hK K
        try simp only [Act.put, List.getElem_toArray, List.getElem_cons_zero, List.getElem_cons_succ, List.setIfInBounds_toArray, List.set_cons_zero, List.set_cons_succ]
        refine wpAnyH_take (i := 13) (v := ?_) rfl (by kernel_rfl) (by kernel_rfl) (by kernel_rfl) (fun _ _ _ h => h) (Or.inl ⟨by kernel_rfl, ?_⟩) (by assumption) ?_
        rotate_left
        focus (intro w hSw; (try dsimp only at hSw); go_simp; (try with_reducible rfl); done)
        try simp only [Act.put, List.getElem_toArray, List.getElem_cons_zero, List.getElem_cons_succ, List.setIfInBounds_toArray, List.set_cons_zero, List.set_cons_succ]
        refine wpAnyH_ready (rs := [14]) (by kernel_rfl) (by simp) ?_
        refine AllReadyH.cons rfl (fun K hK => ?_) AllReadyH.nil
        go_simp
        refine hK.out _ _ (by (try dsimp only); first | with_reducible exact ⟨y1, y2⟩ | (simp [go_sem, a1, a2]; done) | (simp [go_sem, y1, y2, nA, nA2]; done)) (fun hHeld => ?_)
        clear hK K
        try simp only [Act.put, List.getElem_toArray, List.getElem_cons_zero, List.getElem_cons_succ, List.setIfInBounds_toArray, List.set_cons_zero, List.set_cons_succ]
        refine wpAnyH_done (by kernel_rfl) ?_ _
        have HS : Hid (OwnT (w7.setCell ⟨T, 2, none⟩ (.slice a7 l7 c7)) w1.heap.size T { s with names := withOf (withoutOf (withoutOf s.names name) dest) (dest, id) } ∧ Beside w1.heap.size T wp (w7.setCell ⟨T, 2, none⟩ (.slice a7 l7 c7))) := ⟨h7.out.1, h7.out.2.1⟩
        have bT := h7.out.2.2
        clear y1 y2 yt yf h7 h6 h5 HC1 HC2 HC3 a0 a1 a2 t2 c1 hHeld
        generalize w7.setCell ⟨T, 2, none⟩ (.slice a7 l7 c7) = wc at *
        have HL6 : Hid (({ s with names := withOf (withoutOf (withoutOf s.names name) dest) (dest, id) } : St).files.length ≤ 257) := by show s.files.length ≤ 257; omega
        obtain ⟨y0, y1, y2, y3, y4⟩ := box_cells bT
        have OU6 : Hid (OwnU wc w1.heap.size _ { s with names := withOf (withoutOf (withoutOf s.names name) dest) (dest, id) }) := HS.out.1.at bT
        have bR6 : Hid (wc.heap[N + 2]? = some (.cells #[.int .i64 0, .slice none 0 0, .slice none 0 0, .slice none 0 0, .int .i64 0] 25)) := HS.out.2.low HTb.out (by have := HB1.out; omega) B2p
        have U6 : Hid (Below w.heap.size w wc) := UP.out.trans ((HS.out.2.below HTb.out).mono U1.out.size)
        have hb6 : w1.heap.size ≤ wc.heap.size := Nat.le_trans hbp HS.out.2.size
        clear bT
        go_wp2_with fail
        refine (refSwept_any { s with names := withOf (withoutOf (withoutOf s.names name) dest) (dest, id) } w1.heap.size _ _ OU6.out HL6.out hb6).mono ?_
        rintro e w7 ⟨v7, rfl, ou7, u7⟩
        obtain ⟨a7, n7, c7, a8, n8, c8, a9, n9, c9, ev7⟩ := ou7.shape
        subst ev7
        have bR7 := blk_up bR6.out u7
        have U7 : Hid (Below w.heap.size w w7) := up_trans U6.out u7
        have HO7 : Hid (OwnU w7 w1.heap.size (.agg #[.int .i64 (sweptOf { s with names := withOf (withoutOf (withoutOf s.names name) dest) (dest, id) }).cap, .slice a7 n7 c7, .slice a8 n8 c8, .slice a9 n9 c9, .int .i64 (sweptOf { s with names := withOf (withoutOf (withoutOf s.names name) dest) (dest, id) }).next]) (sweptOf { s with names := withOf (withoutOf (withoutOf s.names name) dest) (dest, id) })) := ou7
        clear ou7 u7
        obtain ⟨x0, x1, x2, x3, x4⟩ := box_cells bR7
        have f0 := blk_frozen bR7 0
        have f1 := blk_frozen bR7 1
        have f2 := blk_frozen bR7 2
        have f3 := blk_frozen bR7 3
        have f4 := blk_frozen bR7 4
        have b5 := set5_blk bR7 (.int .i64 (sweptOf { s with names := withOf (withoutOf (withoutOf s.names name) dest) (dest, id) }).cap) (.slice a7 n7 c7) (.slice a8 n8 c8) (.slice a9 n9 c9) (.int .i64 (sweptOf { s with names := withOf (withoutOf (withoutOf s.names name) dest) (dest, id) }).next)
        have HV5 : Hid (OwnU (set5 w7 (N + 2) (.int .i64 (sweptOf { s with names := withOf (withoutOf (withoutOf s.names name) dest) (dest, id) }).cap) (.slice a7 n7 c7) (.slice a8 n8 c8) (.slice a9 n9 c9) (.int .i64 (sweptOf { s with names := withOf (withoutOf (withoutOf s.names name) dest) (dest, id) }).next)) w1.heap.size (.agg #[.int .i64 (sweptOf { s with names := withOf (withoutOf (withoutOf s.names name) dest) (dest, id) }).cap, .slice a7 n7 c7, .slice a8 n8 c8, .slice a9 n9 c9, .int .i64 (sweptOf { s with names := withOf (withoutOf (withoutOf s.names name) dest) (dest, id) }).next]) (sweptOf { s with names := withOf (withoutOf (withoutOf s.names name) dest) (dest, id) })) := (HO7.out.put bR7).2
        clear bR7
        go_wp2_with fail
        refine bodyPost_ret (results_docs1 rfl _ _ rfl rfl b5) rfl ?_
        rw [HR.out]
        exact ⟨_, rfl, HV5.out.mono U1.out.size, U7.out.grown (set5_grown _ _ _ _ _ _ _) U7.out.size (fun j hj => by injection hj with hj; rw [← hj, HN.out]; omega)⟩

end Go.Proofs.Ytoceddpjkodfkaa
