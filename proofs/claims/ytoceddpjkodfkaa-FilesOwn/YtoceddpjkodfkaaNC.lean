/- The document's Do and Run; Alike of a state and itself. -/
import Derived.Test.YtoceddpjkodfkaaNA
import Derived.Test.YtoceddpjkodfkaaNB
import Derived.Test.YtoceddpjkodfkaaS1
import Derived.Deep.RegionHeld3

/- The document's Do: a file made. -/
namespace Go.Proofs.Ytoceddpjkodfkaa
open Go.RowKit
set_option linter.unusedVariables false
set_option linter.unusedSimpArgs false

set_option maxHeartbeats 8000000 in
set_option maxRecDepth 4000 in
theorem refDo_one (s : St) (a : Ac) (v va : Value) (w : World) (hv : StW w v s) (ha : AcW w va a) (hc : checkP s = true) (hw : a.what = 1) :
    Calls Try.prog 12 #[v, va] w fun e w' => ∃ v', e = .returned (.tuple #[v', .int .i64 (doR s a).2]) ∧ OwnU w' w.heap.size v' (doR s a).1 ∧ Below w.heap.size w w' := by
  have HR : Hid (doR s a = (if mayOf a.name = false then (z0, 31) else if 0 ≤ findOf s.names a.name then (z0, 6) else if (256 : Int) ≤ (s.files.length : Int) ∨ 2147483647 ≤ s.next then (z0, 51) else ({ s with files := s.files ++ [(s.next, [], 0)], names := withOf s.names (a.name, s.next), next := s.next + 1 }, 0))) := by
    unfold Hid doR
    rw [if_neg (by rw [hc]; decide), if_neg (by omega), if_pos hw]
  obtain ⟨af, cf, an, cn, as', cs', rfl⟩ := hv.form
  obtain ⟨what, name, dest, data⟩ := a
  obtain ⟨vd, rfl, hd, hok⟩ := ha
  obtain ⟨ad, cd, evd, _⟩ := hd.slice
  simp only at evd hd hok
  subst evd
  unfold okAc at hok
  simp only at hok
  obtain ⟨ho1, ho2, ho3, ho4, ho5, ho6⟩ := hok
  simp only at hw
  subst hw
  simp only
  have HV : Hid (StW w (.agg #[.int .i64 s.cap, .slice af s.files.length cf, .slice an s.names.length cn, .slice as' s.safe.length cs', .int .i64 s.next]) s) := hv
  have HD : Hid (Octs w (.slice ad data.length cd) data) := hd
  have HN1 : Hid (OctL name ∧ name.length ≤ 140737488355328) := ⟨ho2, ho3⟩
  have HN2 : Hid (OctL dest ∧ dest.length ≤ 140737488355328) := ⟨ho4, ho5⟩
  obtain ⟨N, hN⟩ : ∃ N, N = w.heap.size := ⟨_, rfl⟩
  obtain ⟨wx, hwx⟩ : ∃ wx, wx = ((w.alloc (.cells #[.int .i64 s.cap, .slice af s.files.length cf, .slice an s.names.length cn, .slice as' s.safe.length cs', .int .i64 s.next] 25)).alloc (.cells #[.int .i64 1, .string (strOfNums name), .string (strOfNums dest), .slice ad data.length cd] 28)).alloc (.cells #[.int .i64 0, .slice none 0 0, .slice none 0 0, .slice none 0 0, .int .i64 0] 25) := ⟨_, rfl⟩
  have HWx : Hid (((w.alloc (.cells #[.int .i64 s.cap, .slice af s.files.length cf, .slice an s.names.length cn, .slice as' s.safe.length cs', .int .i64 s.next] 25)).alloc (.cells #[.int .i64 1, .string (strOfNums name), .string (strOfNums dest), .slice ad data.length cd] 28)).alloc (.cells #[.int .i64 0, .slice none 0 0, .slice none 0 0, .slice none 0 0, .int .i64 0] 25) = wx) := hwx.symm
  have b0 : wx.heap[N]? = some (.cells #[.int .i64 s.cap, .slice af s.files.length cf, .slice an s.names.length cn, .slice as' s.safe.length cs', .int .i64 s.next] 25) := by rw [hwx, hN]; exact blk_up (blk_two0 w _ _) (up_al (Below.refl _ _) _)
  have b1 : wx.heap[N + 1]? = some (.cells #[.int .i64 1, .string (strOfNums name), .string (strOfNums dest), .slice ad data.length cd] 28) := by rw [hwx, hN]; exact blk_up (blk_two1 w _ _) (up_al (Below.refl _ _) _)
  have b2 : wx.heap[N + 2]? = some (.cells #[.int .i64 0, .slice none 0 0, .slice none 0 0, .slice none 0 0, .int .i64 0] 25) := by
    rw [hwx, hN]
    have := blk_new ((w.alloc (.cells #[.int .i64 s.cap, .slice af s.files.length cf, .slice an s.names.length cn, .slice as' s.safe.length cs', .int .i64 s.next] 25)).alloc (.cells #[.int .i64 1, .string (strOfNums name), .string (strOfNums dest), .slice ad data.length cd] 28)) (.cells #[.int .i64 0, .slice none 0 0, .slice none 0 0, .slice none 0 0, .int .i64 0] 25)
    simpa using this
  have UX : Hid (Below w.heap.size w wx) := by rw [hwx]; exact up_al (up_al (up_al (Below.refl _ _) _) _) _
  have HN : Hid (N = w.heap.size) := hN
  clear hv hd hwx
  go_enter Try.func12, Try.ntmps12
  go_wp2_with fail
  rw [HWx.out, ← hN]
  clear HWx hN
  refine (refCheck_any s _ wx (HV.out.up UX.out)).mono ?_
  rintro e w1 ⟨rfl, u⟩
  have U1 : Hid (Below w.heap.size w w1) := up_trans UX.out u
  have B0 := blk_up b0 u
  have B1 := blk_up b1 u
  have B2 := blk_up b2 u
  clear b0 b1 b2 u UX
  have HG : Hid (Good s) := check_good hc
  rw [hc]
  have e0 : errOf true = 0 := rfl
  rw [e0]
  clear e0
  obtain ⟨q0, q1, q2, q3, q4⟩ := box_cells B0
  have a0 := blk_cell B1 0 _ rfl
  have a1 := blk_cell B1 1 _ rfl
  have a2 := blk_cell B1 2 _ rfl
  have a3 := blk_cell B1 3 _ rfl
  have hfew := HG.out.few
  have hn1 := few_names HG.out.names
  have hn2 := few_names HG.out.safe
  go_wp2_with fail
  refine (refOwn_any s _ w1 (HV.out.up U1.out) hfew (by omega) (by omega)).mono ?_
  rintro e w2 ⟨v2, rfl, ou, u⟩
  obtain ⟨a2f, c2f, a2n, c2n, a2s, c2s, rfl⟩ := (StW.ownU ou).form
  have OT : Hid (OwnT (w2.alloc (.cells #[.int .i64 s.cap, .slice a2f s.files.length c2f, .slice a2n s.names.length c2n, .slice a2s s.safe.length c2s, .int .i64 s.next] 25)) w1.heap.size w2.heap.size s) := ou.laid
  have U2 : Hid (Below w1.heap.size w1 w2) := u
  have U3 : Hid (Below w1.heap.size w1 (w2.alloc (.cells #[.int .i64 s.cap, .slice a2f s.files.length c2f, .slice a2n s.names.length c2n, .slice a2s s.safe.length c2s, .int .i64 s.next] 25))) := up_al u _
  have T0 : (w2.alloc (.cells #[.int .i64 s.cap, .slice a2f s.files.length c2f, .slice a2n s.names.length c2n, .slice a2s s.safe.length c2s, .int .i64 s.next] 25)).heap[w2.heap.size]? = some (.cells #[.int .i64 s.cap, .slice a2f s.files.length c2f, .slice a2n s.names.length c2n, .slice a2s s.safe.length c2s, .int .i64 s.next] 25) := blk_new _ _
  have B1' := blk_up B1 U3.out
  have B2' := blk_up B2 U3.out
  have B0n := B2
  clear ou u B1 B2 B0 q0 q1 q2 q3 q4 a0 a1 a2 a3
  have t2 := blk_cell T0 2 _ rfl
  have a1 := blk_cell B1' 1 _ rfl
  go_wp2_with fail
  generalize w2.alloc (.cells #[.int .i64 s.cap, .slice a2f s.files.length c2f, .slice a2n s.names.length c2n, .slice a2s s.safe.length c2s, .int .i64 s.next] 25) = w3 at *
  have HNm : Hid (NamesW w3 (.slice a2n s.names.length c2n) s.names) := by
    obtain ⟨vf, vn, vs, hb, ou⟩ := OT.out.take
    rw [hb] at T0
    simp at T0
    obtain ⟨rfl, rfl, rfl⟩ := T0
    obtain ⟨_, _, _, _, e, _, _, on, _⟩ := ou
    simp at e
    obtain ⟨rfl, rfl, rfl⟩ := e
    exact NamesW.own on
  refine (refFind_any s.names name HN1.out.1 _ w3 HNm.out).mono ?_
  rintro e w4 ⟨rfl, hw4⟩
  have hw4' : w3 = w4 := hw4.symm
  clear hw4
  subst hw4'
  have U03 : Hid (Below w.heap.size w w3) := up_trans U1.out U3.out
  obtain ⟨T, hT⟩ : ∃ T, T = w2.heap.size := ⟨_, rfl⟩
  rw [← hT] at OT T0 t2 ⊢
  have HTb : Hid (w1.heap.size ≤ T) := by rw [hT]; exact U2.out.size
  clear hT U2
  have HB1 : Hid (N + 3 ≤ w1.heap.size) := by
    have := blk_lt B0n
    unfold Hid
    omega
  clear B0n
  have hb3 : w1.heap.size ≤ w3.heap.size := U3.out.size
  obtain ⟨fd, hfd⟩ : ∃ fd, fd = findOf s.names name := ⟨_, rfl⟩
  have HFd : Hid (fd = findOf s.names name) := hfd
  rw [← hfd]
  clear hfd t2 a1
  have hfd1 := (placeOf_ge (fun p => decide (p.1 = name)) s.names)
  have hfd2 : -1 ≤ fd ∧ fd < (s.names.length : Int) := by rw [HFd.out]; exact hfd1
  clear hfd1
  obtain ⟨hfd1, hfd2⟩ := hfd2
  rw [← HFd.out] at HR
  obtain ⟨af3, cf3, an3, cn3, as3, cs3, m, hO⟩ := OT.out.open
  have HO : Hid (OpenT w3 w1.heap.size T s af3 cf3 an3 cn3 as3 cs3 m) := hO
  have HML : Hid (m.length = s.files.length) := by
    have := congrArg List.length hO.2.2.1
    simpa [Hid] using this
  clear hO OT T0 HNm
  have a0 := blk_cell B1' 0 _ rfl
  have a1 := blk_cell B1' 1 _ rfl
  have hm := refMay_any name HN1.out.1 HN1.out.2 w3
  have hnx0 := HG.out.next0
  have hnx1 := HG.out.next1
  cases hmay : mayOf name
  · rw [hmay] at hm
    rw [if_pos hmay] at HR
    clear hmay
    go_wp2_with fail
    refine hm.mono ?_
    rintro e wz ⟨rfl, rfl⟩
    clear hm
    obtain ⟨x0, x1, x2, x3, x4⟩ := box_cells B2'
    have f0 := blk_frozen B2' 0
    have f1 := blk_frozen B2' 1
    have f2 := blk_frozen B2' 2
    have f3 := blk_frozen B2' 3
    have f4 := blk_frozen B2' 4
    have b5 := set5_blk B2' (.int .i64 0) (.slice none 0 0) (.slice none 0 0) (.slice none 0 0) (.int .i64 0)
    clear B2'
    go_wp2_with fail
    refine bodyPost_ret (results_docs1 rfl _ _ rfl rfl b5) rfl ?_
    rw [HR.out]
    exact ⟨_, rfl, OwnU.zero _ _ 0 0 in64_0 in64_0, U03.out.grown (set5_grown _ _ _ _ _ _ _) U03.out.size (fun j hj => by injection hj with hj; rw [← hj, HN.out]; omega)⟩
  · rw [hmay] at hm
    rw [if_neg (by rw [hmay]; decide)] at HR
    clear hmay
    go_wp2_with fail
    refine hm.mono ?_
    rintro e wz ⟨rfl, hwz⟩
    have hwz' : w3 = wz := hwz.symm
    clear hwz hm
    subst hwz'
    by_cases hf : 0 ≤ fd
    · rw [if_pos hf] at HR
      obtain ⟨x0, x1, x2, x3, x4⟩ := box_cells B2'
      have f0 := blk_frozen B2' 0
      have f1 := blk_frozen B2' 1
      have f2 := blk_frozen B2' 2
      have f3 := blk_frozen B2' 3
      have f4 := blk_frozen B2' 4
      have b5 := set5_blk B2' (.int .i64 0) (.slice none 0 0) (.slice none 0 0) (.slice none 0 0) (.int .i64 0)
      clear B2'
      go_wp2_with fail
      refine bodyPost_ret (results_docs1 rfl _ _ rfl rfl b5) rfl ?_
      rw [HR.out]
      exact ⟨_, rfl, OwnU.zero _ _ 0 0 in64_0 in64_0, U03.out.grown (set5_grown _ _ _ _ _ _ _) U03.out.size (fun j hj => by injection hj with hj; rw [← hj, HN.out]; omega)⟩
    · rw [if_neg hf] at HR
      obtain ⟨t0, t1, t2, t3, t4⟩ := box_cells HO.out.2.1
      by_cases hfull : (256 : Int) ≤ (s.files.length : Int)
      · rw [if_pos (.inl hfull)] at HR
        have hfull' : (256 : Int) ≤ (m.length : Int) := by rw [HML.out]; exact hfull
        obtain ⟨x0, x1, x2, x3, x4⟩ := box_cells B2'
        have f0 := blk_frozen B2' 0
        have f1 := blk_frozen B2' 1
        have f2 := blk_frozen B2' 2
        have f3 := blk_frozen B2' 3
        have f4 := blk_frozen B2' 4
        have b5 := set5_blk B2' (.int .i64 0) (.slice none 0 0) (.slice none 0 0) (.slice none 0 0) (.int .i64 0)
        clear B2'
        go_wp2_with fail
        refine bodyPost_ret (results_docs1 rfl _ _ rfl rfl b5) rfl ?_
        rw [HR.out]
        exact ⟨_, rfl, OwnU.zero _ _ 0 0 in64_0 in64_0, U03.out.grown (set5_grown _ _ _ _ _ _ _) U03.out.size (fun j hj => by injection hj with hj; rw [← hj, HN.out]; omega)⟩
      · have hfull' : ¬ (256 : Int) ≤ (m.length : Int) := by rw [HML.out]; exact hfull
        by_cases hnx : 2147483647 ≤ s.next
        · rw [if_pos (.inr hnx)] at HR
          obtain ⟨x0, x1, x2, x3, x4⟩ := box_cells B2'
          have f0 := blk_frozen B2' 0
          have f1 := blk_frozen B2' 1
          have f2 := blk_frozen B2' 2
          have f3 := blk_frozen B2' 3
          have f4 := blk_frozen B2' 4
          have b5 := set5_blk B2' (.int .i64 0) (.slice none 0 0) (.slice none 0 0) (.slice none 0 0) (.int .i64 0)
          clear B2'
          go_wp2_with fail
          refine bodyPost_ret (results_docs1 rfl _ _ rfl rfl b5) rfl ?_
          rw [HR.out]
          exact ⟨_, rfl, OwnU.zero _ _ 0 0 in64_0 in64_0, U03.out.grown (set5_grown _ _ _ _ _ _ _) U03.out.size (fun j hj => by injection hj with hj; rw [← hj, HN.out]; omega)⟩
        · rw [if_neg (by omega)] at HR
          have HA1 : Hid (OwnR (w3.alloc (.cells #[.int .i64 s.next, .slice none 0 0, .int .i64 0] 86)) w1.heap.size 86 3 (.slice af3 m.length cf3) (m.map frow)) := (HO.out.up (up_al (Below.refl _ _) _)).2.2.2.1.1
          have HA2 : Hid (Rws 3 (w3.alloc (.cells #[.int .i64 s.next, .slice none 0 0, .int .i64 0] 86)) (.slice (some ⟨w3.heap.size, 0, none⟩) 1 1) [[.int .i64 s.next, .slice none 0 0, .int .i64 0]]) := by
            have := Rws.made (sz := 3) w3 86 [[.int .i64 s.next, .slice none 0 0, .int .i64 0]] (by intro cs hcs; simp at hcs; subst hcs; rfl) (by simp [maxLen])
            simpa [Hid] using this
          have HA3 : Hid (∀ cs ∈ [[Value.int .i64 s.next, .slice none 0 0, .int .i64 0]], ∀ u ∈ cs, u.oneCell' = true) := by
            intro cs hcs u hu
            simp at hcs
            subst hcs
            simp at hu
            rcases hu with rfl | rfl | rfl <;> rfl
          have HA4 : Hid ((((m.map frow).length + 1) + ((m.map frow).length + 1) / 4 + 192) * 40 ≤ 281474976710656 ∧ (m.map frow).length + 1 ≤ maxLen) := by
            rw [List.length_map, HML.out]
            unfold maxLen
            constructor <;> omega
          have HA5 : Hid (w1.heap.size ≤ (w3.alloc (.cells #[.int .i64 s.next, .slice none 0 0, .int .i64 0] 86)).heap.size) := by
            have := (up_al (Below.refl w3.heap.size w3) (.cells #[.int .i64 s.next, .slice none 0 0, .int .i64 0] 86)).size
            exact Nat.le_trans hb3 this
          have HIn : Hid (In64 s.next ∧ In64 (s.next + 1)) := by unfold Hid In64; omega
          have HLn : Hid (s.names.length ≤ 256) := by unfold Hid; omega
          have nT1 : ¬ T = N + 1 := by have h1 := HTb.out; have h2 := HB1.out; omega
          go_wp2_with (at_builtin; refine wpList_append_rows (w3.alloc (.cells #[.int .i64 s.next, .slice none 0 0, .int .i64 0] 86)) rfl (.tmp 57) (.tmp 61) 22 86 (.agg #[.int .i64 0, .slice none 0 0, .int .i64 0]) 3 40 rfl Try.underlying22 Try.info86 rfl (by decide) w1.heap.size (.slice af3 m.length cf3) (m.map frow) rfl HA1.out (.slice (some ⟨w3.heap.size, 0, none⟩) 1 1) [[.int .i64 s.next, .slice none 0 0, .int .i64 0]] rfl HA2.out HA3.out ?c1 ?c2 HA5.out ?_)
          try case c1 => exact HA4.out.1
          try case c2 => exact HA4.out.2
          intro v6 w6 o6 g6
          obtain ⟨a6, c6, e6, _, _⟩ := (Rws.own o6).len
          rw [List.length_append, List.length_map] at e6
          have e7 : v6 = .slice a6 (m.length + 1) c6 := e6
          clear e6
          subst e7
          have uo := up_al (Below.refl w3.heap.size w3) (.cells #[.int .i64 s.next, .slice none 0 0, .int .i64 0] 86)
          have st := (HO.out.up uo).addFile HA5.out s.next HIn.out.1 g6 o6
          obtain ⟨z0', z1', z2', z3', z4'⟩ := box_cells st.1
          have zf := blk_frozen st.1 1
          have HS6 : Hid (OwnT (w6.setCell ⟨T, 1, none⟩ (.slice a6 (m.length + 1) c6)) w1.heap.size T { s with files := s.files ++ [(s.next, [], 0)] } ∧ Beside w1.heap.size T w3 (w6.setCell ⟨T, 1, none⟩ (.slice a6 (m.length + 1) c6))) := ⟨st.2.1, (Below_beside uo hb3).trans st.2.2⟩
          have bT6 : (w6.setCell ⟨T, 1, none⟩ (.slice a6 (m.length + 1) c6)).heap[T]? = some (.cells #[.int .i64 s.cap, .slice a6 (m.length + 1) c6, .slice an3 s.names.length cn3, .slice as3 s.safe.length cs3, .int .i64 s.next] 25) := blk_set st.1 1 _
          have bA6 : (w6.setCell ⟨T, 1, none⟩ (.slice a6 (m.length + 1) c6)).heap[N + 1]? = some (.cells #[.int .i64 1, .string (strOfNums name), .string (strOfNums dest), .slice ad data.length cd] 28) := HS6.out.2.low HTb.out (by have := HB1.out; omega) B1'
          have bR6 : Hid ((w6.setCell ⟨T, 1, none⟩ (.slice a6 (m.length + 1) c6)).heap[N + 2]? = some (.cells #[.int .i64 0, .slice none 0 0, .slice none 0 0, .slice none 0 0, .int .i64 0] 25)) := HS6.out.2.low HTb.out (by have := HB1.out; omega) B2'
          have U6 : Hid (Below w.heap.size w (w6.setCell ⟨T, 1, none⟩ (.slice a6 (m.length + 1) c6))) := U03.out.trans ((HS6.out.2.below HTb.out).mono U1.out.size)
          have hb6 : w1.heap.size ≤ (w6.setCell ⟨T, 1, none⟩ (.slice a6 (m.length + 1) c6)).heap.size := Nat.le_trans hb3 HS6.out.2.size
          obtain ⟨y0, y1, y2, y3, y4⟩ := box_cells bT6
          have ya := blk_cell bA6 1 _ rfl
          clear st o6 g6 uo t0 t1 t2 t3 t4 a0 a1 HO B1' B2' HA1 HA2 HA3
          go_wp2_with fail
          generalize w6.setCell ⟨T, 1, none⟩ (.slice a6 (m.length + 1) c6) = wc at *
          clear y0 y1 y2 y3 y4 ya z0' z1' z2' z3' z4' zf
          obtain ⟨af4, cf4, an4, cn4, as4, cs4, m4, hO4⟩ := HS6.out.1.open
          have hq := hO4.2.1
          rw [bT6] at hq
          simp at hq
          obtain ⟨⟨rfl, hm4, rfl⟩, ⟨rfl, rfl⟩, ⟨rfl, rfl⟩⟩ := hq
          refine (refWith_any s.names name s.next ⟨HN1.out.1, HN1.out.2, HIn.out.1⟩ _ wc (NamesW.own hO4.2.2.2.2.1) (by have := HLn.out; omega)).mono ?_
          rintro e w7 ⟨v7, rfl, on7, u7⟩
          obtain ⟨a7, c7, e7, _, _⟩ := (NamesW.own on7).len
          obtain ⟨ln, hln⟩ : ∃ ln, ln = (withOf s.names (name, s.next)).length := ⟨_, rfl⟩
          rw [← hln] at e7
          subst e7
          have st := hO4.setNames hb6 (grown_up u7 _) (.inr (fun g hg => by have := (on7.2.2.lt g hg).1; omega)) (on7.mono (by omega))
          have st1 : w7.heap[T]? = some (.cells #[.int .i64 s.cap, .slice a6 m4.length c6, .slice an3 s.names.length cn3, .slice as3 s.safe.length cs3, .int .i64 s.next] 25) := st.1
          obtain ⟨z0', z1', z2', z3', z4'⟩ := box_cells st1
          have zf := blk_frozen st1 2
          have HS7 : Hid (OwnT (w7.setCell ⟨T, 2, none⟩ (.slice a7 ln c7)) w1.heap.size T { s with files := s.files ++ [(s.next, [], 0)], names := withOf s.names (name, s.next) } ∧ Beside w1.heap.size T wc (w7.setCell ⟨T, 2, none⟩ (.slice a7 ln c7))) := st.2
          have bT7 : (w7.setCell ⟨T, 2, none⟩ (.slice a7 ln c7)).heap[T]? = some (.cells #[.int .i64 s.cap, .slice a6 m4.length c6, .slice a7 ln c7, .slice as3 s.safe.length cs3, .int .i64 s.next] 25) := blk_set st1 2 (.slice a7 ln c7)
          have bR7 : Hid ((w7.setCell ⟨T, 2, none⟩ (.slice a7 ln c7)).heap[N + 2]? = some (.cells #[.int .i64 0, .slice none 0 0, .slice none 0 0, .slice none 0 0, .int .i64 0] 25)) := HS7.out.2.low HTb.out (by have := HB1.out; omega) bR6.out
          have U7 : Hid (Below w.heap.size w (w7.setCell ⟨T, 2, none⟩ (.slice a7 ln c7))) := U6.out.trans ((HS7.out.2.below HTb.out).mono U1.out.size)
          have hb7 : w1.heap.size ≤ (w7.setCell ⟨T, 2, none⟩ (.slice a7 ln c7)).heap.size := Nat.le_trans hb6 HS7.out.2.size
          have hwr : IntKind.i64.wrap (s.next + 1) = s.next + 1 := by rw [IntKind.wrap_i64]; omega
          clear st on7 u7 hO4 hm4 hln HS6 bT6 bA6 bR6 U6 hb6
          go_upto_region 16 with fail
          generalize w7.setCell ⟨T, 2, none⟩ (.slice a7 ln c7) = wd at *
          clear z0' z1' z2' z3' z4' zf st1
          obtain ⟨af5, cf5, an5, cn5, as5, cs5, m5, hO5⟩ := HS7.out.1.open
          have st8 := hO5.setNext hb7 (s.next + 1) HIn.out.2
          have HS8 : Hid (OwnT (wd.setCell ⟨T, 4, none⟩ (.int .i64 (s.next + 1))) w1.heap.size T { s with files := s.files ++ [(s.next, [], 0)], names := withOf s.names (name, s.next), next := s.next + 1 } ∧ Beside w1.heap.size T wd (wd.setCell ⟨T, 4, none⟩ (.int .i64 (s.next + 1)))) := st8
          have f7 := blk_frozen bT7 4
          obtain ⟨z0', z1', z2', z3', z4'⟩ := box_cells bT7
          have bT8 : (wd.setCell ⟨T, 4, none⟩ (.int .i64 (s.next + 1))).heap[T]? = some (.cells #[.int .i64 s.cap, .slice a6 m4.length c6, .slice a7 ln c7, .slice as3 s.safe.length cs3, .int .i64 (s.next + 1)] 25) := blk_set bT7 4 (.int .i64 (s.next + 1))
          have bR8 : (wd.setCell ⟨T, 4, none⟩ (.int .i64 (s.next + 1))).heap[N + 2]? = some (.cells #[.int .i64 0, .slice none 0 0, .slice none 0 0, .slice none 0 0, .int .i64 0] 25) := HS8.out.2.low HTb.out (by have := HB1.out; omega) bR7.out
          have U8 : Hid (Below w.heap.size w (wd.setCell ⟨T, 4, none⟩ (.int .i64 (s.next + 1)))) := U7.out.trans ((HS8.out.2.below HTb.out).mono U1.out.size)
          have OU8 : Hid (OwnU (wd.setCell ⟨T, 4, none⟩ (.int .i64 (s.next + 1))) w1.heap.size (.agg #[.int .i64 s.cap, .slice a6 m4.length c6, .slice a7 ln c7, .slice as3 s.safe.length cs3, .int .i64 (s.next + 1)]) { s with files := s.files ++ [(s.next, [], 0)], names := withOf s.names (name, s.next), next := s.next + 1 }) := HS8.out.1.at bT8
          clear hO5 st8 HS8 HS7 bR7 U7 hb7
          go_upto_region 17 with fail
          generalize wd.setCell ⟨T, 4, none⟩ (.int .i64 (s.next + 1)) = we at *
          clear z0' z1' z2' z3' z4' f7 bT7
          obtain ⟨y0, y1, y2, y3, y4⟩ := box_cells bT8
          obtain ⟨x0, x1, x2, x3, x4⟩ := box_cells bR8
          have f0 := blk_frozen bR8 0
          have f1 := blk_frozen bR8 1
          have f2 := blk_frozen bR8 2
          have f3 := blk_frozen bR8 3
          have f4 := blk_frozen bR8 4
          have b5 := set5_blk bR8 (.int .i64 s.cap) (.slice a6 m4.length c6) (.slice a7 ln c7) (.slice as3 s.safe.length cs3) (.int .i64 (s.next + 1))
          have HV5 : Hid (OwnU (set5 we (N + 2) (.int .i64 s.cap) (.slice a6 m4.length c6) (.slice a7 ln c7) (.slice as3 s.safe.length cs3) (.int .i64 (s.next + 1))) w1.heap.size (.agg #[.int .i64 s.cap, .slice a6 m4.length c6, .slice a7 ln c7, .slice as3 s.safe.length cs3, .int .i64 (s.next + 1)]) { s with files := s.files ++ [(s.next, [], 0)], names := withOf s.names (name, s.next), next := s.next + 1 }) := (OU8.out.put bR8).2
          clear bR8 bT8
          go_wp2_with fail
          refine bodyPost_ret (results_docs1 rfl _ _ rfl rfl b5) rfl ?_
          rw [HR.out]
          exact ⟨_, rfl, HV5.out.mono U1.out.size, U8.out.grown (set5_grown _ _ _ _ _ _ _) U8.out.size (fun j hj => by injection hj with hj; rw [← hj, HN.out]; omega)⟩

end Go.Proofs.Ytoceddpjkodfkaa

/- The document's Do and the program's make the same of a state. -/
namespace Go.Proofs.Ytoceddpjkodfkaa
open Go.RowKit
set_option linter.unusedVariables false

theorem there_at {l : List (List Int × Int)} {t : List Int} (h : thereN l t = true) : ∃ hi : rankN l t < l.length, (l[rankN l t]).1 = t := by
  unfold thereN at h
  simp only [Bool.and_eq_true, decide_eq_true_eq] at h
  refine ⟨h.1, ?_⟩
  have := h.2
  simpa [List.getD, h.1] using this

theorem there_of {l : List (List Int × Int)} (hr : l.Pairwise fun a b => lessL a.1 b.1 = true) {p : List Int × Int} (hp : p ∈ l) : thereN l p.1 = true := by
  obtain ⟨i, hi, rfl⟩ := List.getElem_of_mem hp
  unfold thereN
  rw [rankN_at hr hi]
  simp [List.getD, hi]

theorem less_ne {a b : List Int} (h : lessL a b = true) : a ≠ b := by
  rintro rfl
  rw [lessL_self] at h
  cases h

theorem find_there {l : List (List Int × Int)} {t : List Int} (h : thereN l t = true) : findOf l t = (rankN l t : Int) := by
  obtain ⟨hi, e⟩ := there_at h
  unfold findOf
  refine placeOf_at _ l _ (l[rankN l t]) (List.getElem?_eq_getElem hi) (by simpa using e) ?_
  intro y hy
  have h1 : l.take (rankN l t) = l.takeWhile fun p => lessL p.1 t := rank_take _ l
  rw [h1] at hy
  have := less_ne (mem_tw (p := fun p : List Int × Int => lessL p.1 t) hy)
  simpa using this

theorem find_not {l : List (List Int × Int)} (hr : l.Pairwise fun a b => lessL a.1 b.1 = true) {t : List Int} (h : thereN l t = false) : findOf l t < 0 := by
  have h1 : ¬ 0 ≤ findOf l t := by
    intro q
    obtain ⟨x, hx, e⟩ := (place_iff _ l).1 q
    have e' : x.1 = t := by simpa using e
    have := there_of hr hx
    rw [e', h] at this
    cases this
  omega

theorem foldA (x : List Int × Int) : ∀ (a o : List (List Int × Int)), (∀ y ∈ a, lessL x.1 y.1 = false) → a.foldl (withStep x) (o, false) = (o ++ a, false)
  | [], o, _ => by simp
  | y :: a, o, h => by
    have hy := h y (by simp)
    have : withStep x (o, false) y = (o ++ [y], false) := by simp [withStep, hy]
    rw [List.foldl_cons, this, foldA x a (o ++ [y]) (fun z hz => h z (by simp [hz]))]
    simp

theorem foldB (x : List Int × Int) : ∀ (b o : List (List Int × Int)), b.foldl (withStep x) (o, true) = (o ++ b, true)
  | [], o => by simp
  | y :: b, o => by
    have : withStep x (o, true) y = (o ++ [y], true) := by simp [withStep]
    rw [List.foldl_cons, this, foldB x b (o ++ [y])]
    simp

theorem lessL_flip {a b : List Int} (h : lessL a b = true) : lessL b a = false := by
  cases hb : lessL b a
  · rfl
  · have := lessL_trans _ _ _ h hb
    rw [lessL_self] at this
    cases this

theorem with_ins {l : List (List Int × Int)} (hr : l.Pairwise fun a b => lessL a.1 b.1 = true) {t : List Int} (id : Int) (h : thereN l t = false) : withOf l (t, id) = insN l (rankN l t) (t, id) := by
  have e1 : l.take (rankN l t) = l.takeWhile fun p => lessL p.1 t := rank_take _ l
  have e2 : l.drop (rankN l t) = l.dropWhile fun p => lessL p.1 t := rank_drop _ l
  have hg := behind_greater hr h
  have ha : ∀ y ∈ l.takeWhile (fun p => lessL p.1 t), lessL t y.1 = false := fun y hy => lessL_flip (mem_tw (p := fun p : List Int × Int => lessL p.1 t) hy)
  unfold insN
  rw [e1, e2]
  have el : l = l.takeWhile (fun p => lessL p.1 t) ++ l.dropWhile (fun p => lessL p.1 t) := List.takeWhile_append_dropWhile.symm
  unfold withOf withK
  generalize l.takeWhile (fun p => lessL p.1 t) = a at *
  generalize l.dropWhile (fun p => lessL p.1 t) = b at *
  rw [el, List.foldl_append, foldA (t, id) a [] ha]
  cases b with
  | nil => simp
  | cons z r =>
    have hz := hg z (by simp)
    have : withStep (t, id) ([] ++ a, false) z = (a ++ [(t, id)] ++ [z], true) := by simp [withStep, hz]
    rw [List.foldl_cons, this, foldB]
    simp

theorem without_not {l : List (List Int × Int)} (hr : l.Pairwise fun a b => lessL a.1 b.1 = true) {t : List Int} (h : thereN l t = false) : withoutOf l t = l := by
  unfold withoutOf
  refine List.filter_eq_self.2 fun p hp => ?_
  have : p.1 ≠ t := by
    rintro rfl
    rw [there_of hr hp] at h
    cases h
  simp [this]

theorem split_at {A : Type} {l : List A} {i : Nat} (hi : i < l.length) : l = l.take i ++ l[i] :: l.drop (i + 1) := by
  rw [List.getElem_cons_drop, List.take_append_drop]

theorem without_erase {l : List (List Int × Int)} (hr : l.Pairwise fun a b => lessL a.1 b.1 = true) {t : List Int} (h : thereN l t = true) : withoutOf l t = l.eraseIdx (rankN l t) := by
  obtain ⟨hi, e⟩ := there_at h
  have es := split_at hi
  rw [List.eraseIdx_eq_take_drop_succ]
  have hp := hr
  rw [es, List.pairwise_append] at hp
  have hp2 := List.pairwise_cons.1 hp.2.1
  unfold withoutOf
  conv => lhs; rw [es]
  rw [List.filter_append, List.filter_cons_of_neg (by simp [e])]
  congr 1
  · refine List.filter_eq_self.2 fun p hpm => ?_
    have := less_ne (hp.2.2 p hpm (l[rankN l t]) (List.mem_cons.2 (.inl rfl)))
    rw [e] at this
    simp [this]
  · refine List.filter_eq_self.2 fun p hpm => ?_
    have := less_ne (hp2.1 p hpm)
    rw [e] at this
    simp [Ne.symm this]

theorem erase_rise {l : List (List Int × Int)} (hr : l.Pairwise fun a b => lessL a.1 b.1 = true) (i : Nat) : (l.eraseIdx i).Pairwise fun a b => lessL a.1 b.1 = true := hr.sublist (List.eraseIdx_sublist l i)

theorem rank_erase {l : List (List Int × Int)} (hr : l.Pairwise fun a b => lessL a.1 b.1 = true) {t : List Int} (h : thereN l t = true) : rankN (l.eraseIdx (rankN l t)) t = rankN l t ∧ thereN (l.eraseIdx (rankN l t)) t = false := by
  obtain ⟨hi, e⟩ := there_at h
  have es := split_at hi
  have hp := hr
  rw [es, List.pairwise_append] at hp
  have hp2 := List.pairwise_cons.1 hp.2.1
  have ha : ∀ y ∈ l.take (rankN l t), lessL y.1 t = true := by
    intro y hy
    have := hp.2.2 y hy (l[rankN l t]) (List.mem_cons.2 (.inl rfl))
    rw [e] at this
    exact this
  have hb : ∀ y ∈ l.drop (rankN l t + 1), lessL y.1 t = false := by
    intro y hy
    have := hp2.1 y hy
    rw [e] at this
    exact lessL_flip this
  have hlen : (l.take (rankN l t)).length = rankN l t := by rw [List.length_take]; omega
  have hrk : rankN (l.eraseIdx (rankN l t)) t = rankN l t := by
    rw [List.eraseIdx_eq_take_drop_succ]
    generalize l.drop (rankN l t + 1) = b at *
    generalize l.take (rankN l t) = a at *
    conv => lhs; unfold rankN rankOf
    rw [takeWhile_all (fun x hx => ha x hx), List.length_append, hlen]
    cases b with
    | nil => simp
    | cons z r => simp [hb z (by simp)]
  refine ⟨hrk, ?_⟩
  have hno : ∀ p ∈ l.eraseIdx (rankN l t), p.1 ≠ t := by
    rw [← without_erase hr h]
    intro p hp
    have := (List.mem_filter.1 hp).2
    simpa using this
  cases hth : thereN (l.eraseIdx (rankN l t)) t
  · rfl
  · obtain ⟨hj, ej⟩ := there_at hth
    exact absurd ej (hno _ (List.getElem_mem hj))

theorem ins_set {l : List (List Int × Int)} {i : Nat} (hi : i < l.length) (x : List Int × Int) : insN (l.eraseIdx i) i x = l.set i x := by
  unfold insN
  rw [List.eraseIdx_eq_take_drop_succ, List.take_append_of_le_length (by rw [List.length_take]; omega), List.drop_append_of_le_length (by rw [List.length_take]; omega)]
  rw [List.take_take, List.drop_take]
  simp [List.set_eq_take_append_cons_drop, hi]

theorem rename_same {l : List (List Int × Int)} (hr : l.Pairwise fun a b => lessL a.1 b.1 = true) (t : List Int) (id : Int) : withOf (withoutOf l t) (t, id) = renamed l t id := by
  unfold renamed
  cases h : thereN l t
  · rw [without_not hr h, with_ins hr id h]
    rfl
  · obtain ⟨hi, e⟩ := there_at h
    have hk := rank_erase hr h
    rw [without_erase hr h, with_ins (erase_rise hr _) id hk.2, hk.1, ins_set hi]
    simp only [if_true]
    have : (l.getD (rankN l t) ([], 0)).1 = t := by simpa [List.getD, hi] using e
    rw [this]

theorem swept_good {s : St} (h : Good s) : sweptOf s = s := by
  unfold sweptOf
  have : s.files.filter (fun f => standsOf s.names f.1 || standsOf s.safe f.1) = s.files := by
    refine List.filter_eq_self.2 fun f hf => ?_
    rcases h.all f hf with q | q
    · simp [(stands_iff s.names f.1).2 q]
    · simp [(stands_iff s.safe f.1).2 q]
  rw [this]

theorem file_rank {s : St} (h : Good s) {i : Nat} (hi : i < s.names.length) : fileOf s.files (s.names[i]).2 = (rankF s.files (s.names[i]).2 : Int) := by
  obtain ⟨k, hk, e, _, _⟩ := named h hi
  have hr := rankF_at h.rise hk
  rw [e] at hr
  rw [hr]
  unfold fileOf
  refine placeOf_at _ s.files k (s.files[k]) (List.getElem?_eq_getElem hk) (by simpa using e) ?_
  intro y hy
  obtain ⟨j, hj, rfl⟩ := List.getElem_of_mem hy
  rw [List.length_take] at hj
  rw [List.getElem_take]
  have := (List.pairwise_iff_getElem.1 h.rise) j k (by omega) hk (by omega)
  rw [e] at this
  simp
  omega

theorem doR_eq (s : St) (a : Ac) : doR s a = doP s a := by
  unfold doR doP
  cases hc : checkP s
  · simp
  · have hg := check_good hc
    have hr := hg.names.rise
    have hfew := hg.few
    have hnx := hg.next1
    simp only [Bool.true_eq_false, if_false, if_true]
    unfold actP
    by_cases h0 : a.what < 1 ∨ 6 < a.what
    · have n1 : ¬ a.what = 1 := by omega
      have n2 : ¬ a.what = 2 := by omega
      have n3 : ¬ a.what = 3 := by omega
      have n4 : ¬ a.what = 4 := by omega
      have n5 : ¬ a.what = 5 := by omega
      have n6 : ¬ a.what = 6 := by omega
      rw [if_pos h0]
      simp only [n1, n2, n3, n4, n5, n6, if_false]
      rfl
    rw [if_neg h0]
    by_cases h1 : a.what = 1
    · simp only [h1, if_true]
      unfold createP
      cases hm : mayOf a.name
      · simp
      · simp only [Bool.true_eq_false, if_false, if_true]
        cases ht : thereN s.names a.name
        · have hf := find_not hr ht
          simp only [Bool.false_eq_true, if_false]
          rw [if_neg (show ¬ 0 ≤ findOf s.names a.name by omega)]
          by_cases hx : (256 : Int) ≤ (s.files.length : Int) ∨ 2147483647 ≤ s.next
          · rw [if_pos hx, if_pos (show s.files.length = 256 ∨ s.next = 2147483647 by omega)]
            rfl
          · rw [if_neg hx, if_neg (show ¬ (s.files.length = 256 ∨ s.next = 2147483647) by omega)]
            simp only [if_true]
            rw [with_ins hr s.next ht]
        · have hf := find_there ht
          simp only [if_true]
          rw [if_pos (show 0 ≤ findOf s.names a.name by omega)]
          rfl
    rw [if_neg h1, if_neg h1]
    by_cases h6 : a.what = 6
    · have n2 : ¬ a.what = 2 := by omega
      have n3 : ¬ a.what = 3 := by omega
      have n4 : ¬ a.what = 4 := by omega
      have n5 : ¬ a.what = 5 := by omega
      rw [if_pos h6]
      simp only [n2, n3, n4, n5, if_false]
      rw [if_pos h6]
      rfl
    rw [if_neg h6]
    cases ht : thereN s.names a.name
    · have hf := find_not hr ht
      have hh : hasF s a.name = false := by unfold hasF; rw [ht]; rfl
      rw [if_pos hf]
      by_cases h2 : a.what = 2
      · rw [if_pos h2]
        unfold extendP
        rw [hh]
        rfl
      rw [if_neg h2]
      by_cases h3 : a.what = 3
      · rw [if_pos h3]
        unfold syncP
        rw [hh]
        rfl
      rw [if_neg h3]
      by_cases h4 : a.what = 4
      · rw [if_pos h4]
        unfold renameP
        rw [ht]
        rfl
      have h5 : a.what = 5 := by omega
      rw [if_neg h4, if_pos h5]
      unfold removeP
      rw [ht]
      rfl
    · have hf := find_there ht
      obtain ⟨hi, e⟩ := there_at ht
      obtain ⟨k, hk, ek, hh, hx⟩ := named hg hi
      rw [e] at hh hx
      have hna : nameAt s.names (findOf s.names a.name).toNat = s.names[rankN s.names a.name] := by
        rw [hf]
        simp [nameAt, List.getD, hi]
      have hid : idN s a.name = (s.names[rankN s.names a.name]).2 := by
        unfold idN
        simp [List.getD, hi]
      have hfil : filR s a = idxF s a.name := by
        unfold filR idxF
        rw [hna, file_rank hg hi, hid]
        simp
      have hlt : idxF s a.name < s.files.length := by rw [hx]; exact hk
      rw [if_neg (by omega), hfil]
      by_cases h2 : a.what = 2
      · rw [if_pos h2, if_pos h2]
        unfold extendP
        rw [hh]
        simp only [if_true]
        by_cases hfull : s.cap - usedOf s.files < (a.data.length : Int)
        · rw [if_pos hfull, if_pos hfull]
          rfl
        · have hgd := extend_good hg a.name a.data
          unfold extendP at hgd
          rw [hh] at hgd
          simp only [if_true] at hgd
          rw [if_neg hfull] at hgd
          rw [if_neg hfull, if_neg hfull]
          simp only [if_true]
          rw [swept_good hgd]
      rw [if_neg h2, if_neg h2]
      by_cases h3 : a.what = 3
      · rw [if_pos h3, if_pos h3]
        have hgd := sync_good hg a.name
        unfold syncP at hgd ⊢
        rw [hh] at hgd ⊢
        simp only [if_true] at hgd ⊢
        rw [swept_good hgd]
      rw [if_neg h3, if_neg h3]
      by_cases h4 : a.what = 4
      · rw [if_pos h4, if_pos h4]
        unfold renameP
        rw [ht]
        simp only [if_true]
        cases hm : mayOf a.dest
        · simp
        · simp only [Bool.true_eq_false, if_false, if_true]
          by_cases hs : a.dest = a.name
          · rw [if_pos hs, if_pos hs, swept_good hg]
            rfl
          · rw [if_neg hs, if_neg hs]
            simp only [if_true]
            rw [hna, without_erase hr ht, rename_same (erase_rise hr _), hid]
      have h5 : a.what = 5 := by omega
      rw [if_neg h4, if_neg h4, if_pos h5]
      unfold removeP
      rw [ht]
      simp only [if_true]
      rw [without_erase hr ht]
end Go.Proofs.Ytoceddpjkodfkaa

/- The document's Do: it answers as the program's. -/
namespace Go.Proofs.Ytoceddpjkodfkaa
open Go.RowKit
set_option linter.unusedVariables false

theorem refDo_any (s : St) (a : Ac) (v va : Value) (w : World) (hv : StW w v s) (ha : AcW w va a) :
    Calls Try.prog 12 #[v, va] w fun e w' => ∃ v', e = .returned (.tuple #[v', .int .i64 (doP s a).2]) ∧ OwnU w' w.heap.size v' (doP s a).1 ∧ Below w.heap.size w w' := by
  rw [← doR_eq]
  cases hc : checkP s
  · exact refDo_bad s a v va w hv ha hc
  · by_cases hk : a.what < 1 ∨ 6 < a.what
    · exact refDo_kind s a v va w hv ha hc hk
    · have h : a.what = 1 ∨ a.what = 2 ∨ a.what = 3 ∨ a.what = 4 ∨ a.what = 5 ∨ a.what = 6 := by omega
      rcases h with h | h | h | h | h | h
      · exact refDo_one s a v va w hv ha hc h
      · exact refDo_two s a v va w hv ha hc h
      · exact refDo_three s a v va w hv ha hc h
      · exact refDo_four s a v va w hv ha hc h
      · exact refDo_five s a v va w hv ha hc h
      · exact refDo_six s a v va w hv ha hc h

theorem act_refused (s : St) (a : Ac) (h : ¬ (actP s a).2 = 0) : (actP s a).1 = s := by
  unfold actP at h ⊢
  split at h
  · unfold createP at h ⊢
    split at h
    · split at h
      · rename_i h1 h2 h3
        simp [h1, h2, h3]
      · split at h
        · rename_i h1 h2 h3 h4
          simp [h1, h2, h3, h4]
        · simp at h
    · rename_i h1 h2
      simp [h1, h2]
  · rename_i n1
    rw [if_neg n1]
    split at h
    · rename_i h2
      rw [if_pos h2]
      unfold extendP at h ⊢
      split at h
      · split at h
        · rename_i h3 h4
          simp [h3, h4]
        · simp at h
      · rename_i h3
        simp [h3]
    · rename_i n2
      rw [if_neg n2]
      split at h
      · rename_i h3
        rw [if_pos h3]
        unfold syncP at h ⊢
        split at h
        · simp at h
        · rename_i h4
          simp [h4]
      · rename_i n3
        rw [if_neg n3]
        split at h
        · rename_i h4
          rw [if_pos h4]
          unfold renameP at h ⊢
          split at h
          · split at h
            · split at h
              · simp at h
              · simp at h
            · rename_i h5 h6
              simp [h5, h6]
          · rename_i h5
            simp [h5]
        · rename_i n4
          rw [if_neg n4]
          split at h
          · rename_i h5
            rw [if_pos h5]
            unfold removeP at h ⊢
            split at h
            · simp at h
            · rename_i h6
              simp [h6]
          · rename_i n5
            rw [if_neg n5]
            split at h
            · simp at h
            · rename_i n6
              rw [if_neg n6]
end Go.Proofs.Ytoceddpjkodfkaa

/- The law's Alike: of a state and itself. -/
namespace Go.Proofs.Ytoceddpjkodfkaa
open Go.RowKit
set_option linter.unusedVariables false
set_option linter.unusedSimpArgs false

theorem up_set {a b : World} (h : Below a.heap.size a b) (q : Addr) (hq : a.heap.size ≤ q.block) (u : Value) : Below a.heap.size a (b.setCell q u) :=
  h.grown (grown_set b q u) h.size (fun k hk => by injection hk with hk; omega)

set_option maxHeartbeats 8000000 in
set_option maxRecDepth 4000 in
theorem alike_self (s : St) (v u : Value) (w : World) (hv : StW w v s) (hu : StW w u s) :
    Calls Try.prog 19 #[v, u] w fun e w' => e = .returned (.int .i64 0) ∧ Below w.heap.size w w' := by
  obtain ⟨a1f, c1f, a1n, c1n, a1s, c1s, rfl⟩ := hv.form
  obtain ⟨a2f, c2f, a2n, c2n, a2s, c2s, rfl⟩ := hu.form
  obtain ⟨vf, vn, vs, ev, hf1, hn1, hs1, _, _⟩ := hv
  simp at ev
  obtain ⟨rfl, rfl, rfl⟩ := ev
  obtain ⟨vf, vn, vs, ev, hf2, hn2, hs2, _, _⟩ := hu
  simp at ev
  obtain ⟨rfl, rfl, rfl⟩ := ev
  have hmx : s.files.length ≤ 9223372036854775807 := by
    obtain ⟨_, cc, e, h1, h2⟩ := hf1.len
    unfold maxLen at h2
    omega
  have HF1 : Hid (FilesW w (.slice a1f s.files.length c1f) s.files) := hf1
  have HF2 : Hid (FilesW w (.slice a2f s.files.length c2f) s.files) := hf2
  have HN : Hid (NamesW w (.slice a1n s.names.length c1n) s.names ∧ NamesW w (.slice a2n s.names.length c2n) s.names) := ⟨hn1, hn2⟩
  have HS : Hid (NamesW w (.slice a1s s.safe.length c1s) s.safe ∧ NamesW w (.slice a2s s.safe.length c2s) s.safe) := ⟨hs1, hs2⟩
  obtain ⟨N, hN⟩ : ∃ N, N = w.heap.size := ⟨_, rfl⟩
  obtain ⟨wx, hwx⟩ : ∃ wx, wx = (w.alloc (.cells #[.int .i64 s.cap, .slice a1f s.files.length c1f, .slice a1n s.names.length c1n, .slice a1s s.safe.length c1s, .int .i64 s.next] 33)).alloc (.cells #[.int .i64 s.cap, .slice a2f s.files.length c2f, .slice a2n s.names.length c2n, .slice a2s s.safe.length c2s, .int .i64 s.next] 25) := ⟨_, rfl⟩
  have HWx : Hid ((w.alloc (.cells #[.int .i64 s.cap, .slice a1f s.files.length c1f, .slice a1n s.names.length c1n, .slice a1s s.safe.length c1s, .int .i64 s.next] 33)).alloc (.cells #[.int .i64 s.cap, .slice a2f s.files.length c2f, .slice a2n s.names.length c2n, .slice a2s s.safe.length c2s, .int .i64 s.next] 25) = wx) := hwx.symm
  have b0 : wx.heap[N]? = some (.cells #[.int .i64 s.cap, .slice a1f s.files.length c1f, .slice a1n s.names.length c1n, .slice a1s s.safe.length c1s, .int .i64 s.next] 33) := by rw [hwx, hN]; exact blk_two0 w _ _
  have b1 : wx.heap[N + 1]? = some (.cells #[.int .i64 s.cap, .slice a2f s.files.length c2f, .slice a2n s.names.length c2n, .slice a2s s.safe.length c2s, .int .i64 s.next] 25) := by rw [hwx, hN]; exact blk_two1 w _ _
  have UX : Hid (Below w.heap.size w wx) := by rw [hwx]; exact up_al (up_al (Below.refl _ _) _) _
  obtain ⟨p0, p1, p2, p3, p4⟩ := box_cells b0
  obtain ⟨q0, q1, q2, q3, q4⟩ := box_cells b1
  have HNe : Hid (N = w.heap.size) := hN
  clear hf1 hf2 hn1 hn2 hs1 hs2 hwx
  go_enter Try.func19, Try.ntmps19
  go_upto_region 1 with fail
  rw [HWx.out, ← hN]
  clear HWx hN
  go_wp2_with fail
  refine (sameNames_self s.names _ _ wx (HN.out.1.up UX.out) (HN.out.2.up UX.out)).mono ?_
  rintro e w1 ⟨rfl, u1⟩
  have B0 := blk_up b0 u1
  have B1 := blk_up b1 u1
  have U1 : Hid (Below w.heap.size w w1) := up_trans UX.out u1
  clear p0 p1 p2 p3 p4 q0 q1 q2 q3 q4 b0 b1 u1
  obtain ⟨p0, p1, p2, p3, p4⟩ := box_cells B0
  obtain ⟨q0, q1, q2, q3, q4⟩ := box_cells B1
  go_wp2_with fail
  refine (sameNames_self s.safe _ _ w1 (HS.out.1.up U1.out) (HS.out.2.up U1.out)).mono ?_
  rintro e w2 ⟨rfl, u2⟩
  have B0' := blk_up B0 u2
  have B1' := blk_up B1 u2
  have U2 : Hid (Below w.heap.size w w2) := up_trans U1.out u2
  clear p0 p1 p2 p3 p4 q0 q1 q2 q3 q4 B0 B1 u2
  obtain ⟨p0, p1, p2, p3, p4⟩ := box_cells B0'
  obtain ⟨q0, q1, q2, q3, q4⟩ := box_cells B1'
  go_wp2_with fail
  go_loopw [5] (fun i wr => ∃ k : Nat, k ≤ s.files.length ∧ i = .int .i64 k ∧ Hid (Below w2.heap.size w2 wr)) (fun i _ => s.files.length - (intOf i).toNat)
  case atStart => exact ⟨0, Nat.zero_le _, rfl, Below.refl _ _⟩
  case round =>
    obtain ⟨k, hk, rfl, HB⟩ := hrel
    have r1 := (HB.out.cell (World.block_lt_of_cell? _ _ p1)).trans p1
    have r2 := (HB.out.cell (World.block_lt_of_cell? _ _ q1)).trans q1
    have UR : Hid (Below w.heap.size w wr) := up_trans U2.out HB.out
    by_cases hlt : k < s.files.length
    · have hlt' : (k : Int) < (s.files.length : Int) := by omega
      obtain ⟨g1, o1, cap1, u1, e1, _, _, c0, c1, c2, ho1, _⟩ := (HF1.out.up UR.out).at k hlt
      simp at e1
      obtain ⟨rfl, rfl⟩ := e1
      obtain ⟨g2, o2, cap2, u2, e2, _, _, d0, d1, d2, ho2, _⟩ := (HF2.out.up UR.out).at k hlt
      simp at e2
      obtain ⟨rfl, rfl⟩ := e2
      generalize s.files.getD k (0, [], 0) = y at *
      obtain ⟨yi, yd, ys⟩ := y
      simp only at c0 c1 c2 d0 d1 d2 ho1 ho2
      obtain ⟨ad1, cd1, rfl, _⟩ := ho1.slice
      obtain ⟨ad2, cd2, rfl, _⟩ := ho2.slice
      have HO : Hid (Octs wr (.slice ad1 yd.length cd1) yd ∧ Octs wr (.slice ad2 yd.length cd2) yd) := ⟨ho1, ho2⟩
      have l1 := World.block_lt_of_cell? _ _ r1
      have l2 := World.block_lt_of_cell? _ _ r2
      have l3 := World.block_lt_of_cell? _ _ c0
      have l4 := World.block_lt_of_cell? _ _ d0
      simp only at l1 l2 l3 l4
      have n1 : ¬ N = wr.heap.size := by omega
      have n2 : ¬ N + 1 = wr.heap.size := by omega
      have n3 : ¬ g1 = wr.heap.size := by omega
      have n4 : ¬ g2 = wr.heap.size := by omega
      have n5 : ¬ N = wr.heap.size + 1 := by omega
      have n6 : ¬ N + 1 = wr.heap.size + 1 := by omega
      have n7 : ¬ g1 = wr.heap.size + 1 := by omega
      have n8 : ¬ g2 = wr.heap.size + 1 := by omega
      have m1 : ¬ wr.heap.size = N := by omega
      have m2 : ¬ wr.heap.size = N + 1 := by omega
      have m3 : ¬ wr.heap.size = g1 := by omega
      have m4 : ¬ wr.heap.size = g2 := by omega
      have m5 : ¬ wr.heap.size + 1 = N := by omega
      have m6 : ¬ wr.heap.size + 1 = N + 1 := by omega
      have m7 : ¬ wr.heap.size + 1 = g1 := by omega
      have m8 : ¬ wr.heap.size + 1 = g2 := by omega
      clear ho1 ho2
      have HK : Hid (∀ X, Below wr.heap.size wr X → X.cell? ⟨N, 1, none⟩ = some (.slice (some ⟨g1, o1, none⟩) s.files.length c1f) ∧ X.cell? ⟨N + 1, 1, none⟩ = some (.slice (some ⟨g2, o2, none⟩) s.files.length c2f) ∧ X.cell? ⟨g1, o1 + k * 3, none⟩ = some (.int .i64 yi) ∧ X.cell? ⟨g1, o1 + k * 3 + 1, none⟩ = some (.slice ad1 yd.length cd1) ∧ X.cell? ⟨g1, o1 + k * 3 + 2, none⟩ = some (.int .i64 ys) ∧ X.cell? ⟨g2, o2 + k * 3, none⟩ = some (.int .i64 yi) ∧ X.cell? ⟨g2, o2 + k * 3 + 1, none⟩ = some (.slice ad2 yd.length cd2) ∧ X.cell? ⟨g2, o2 + k * 3 + 2, none⟩ = some (.int .i64 ys)) := by
        intro X hX
        exact ⟨(hX.cell l1).trans r1, (hX.cell l2).trans r2, (hX.cell l3).trans c0, (hX.cell l3).trans c1, (hX.cell l3).trans c2, (hX.cell l4).trans d0, (hX.cell l4).trans d1, (hX.cell l4).trans d2⟩
      go_upto_region 6 with fail
      go_cut [6, 7] from 52 to 61 (fun s6 s7 wx => ∃ A B, s6 = .pointer (some ⟨A, 0, none⟩) ∧ s7 = .pointer (some ⟨B, 0, none⟩) ∧ wx.heap[A]? = some (.cells #[.int .i64 yi, .slice ad1 yd.length cd1, .int .i64 ys] 71) ∧ wx.heap[B]? = some (.cells #[.int .i64 yi, .slice ad2 yd.length cd2, .int .i64 ys] 86) ∧ Hid (Below wr.heap.size wr wx))
      case first =>
        go_region_held3 (fun w' => w'.cell? ⟨N, 1, none⟩ = some (.slice (some ⟨g1, o1, none⟩) s.files.length c1f) ∧ w'.cell? ⟨N + 1, 1, none⟩ = some (.slice (some ⟨g2, o2, none⟩) s.files.length c2f) ∧ w'.cell? ⟨g1, o1 + k * 3, none⟩ = some (.int .i64 yi) ∧ w'.cell? ⟨g1, o1 + k * 3 + 1, none⟩ = some (.slice ad1 yd.length cd1) ∧ w'.cell? ⟨g1, o1 + k * 3 + 2, none⟩ = some (.int .i64 ys) ∧ w'.cell? ⟨g2, o2 + k * 3, none⟩ = some (.int .i64 yi) ∧ w'.cell? ⟨g2, o2 + k * 3 + 1, none⟩ = some (.slice ad2 yd.length cd2) ∧ w'.cell? ⟨g2, o2 + k * 3 + 2, none⟩ = some (.int .i64 ys)) (exact HK.out _ (by repeat (first | exact Below.refl _ _ | apply up_dr | apply up_al | (refine up_set ?_ _ (by first | exact Nat.le_refl _ | exact Nat.le_succ _) _)))) (fail)
        all_goals
          clear HK r1 r2 c0 c1 c2 d0 d1 d2 n1 n2 n3 n4 n5 n6 n7 n8 m1 m2 m3 m4 m5 m6 m7 m8 l1 l2 l3 l4
          go_wp2_with fail
          go_meet
          case rel => first | exact ⟨_, _, rfl, rfl, blk_up (blk_two0 wr _ _) (up_dr (Below.refl _ _)), blk_up (blk_two1 wr _ _) (up_dr (Below.refl _ _)), up_dr (up_al (up_al (Below.refl _ _) _) _)⟩ | exact ⟨_, _, rfl, rfl, blk_up (blk_two1 wr _ _) (up_dr (Below.refl _ _)), blk_up (blk_two0 wr _ _) (up_dr (Below.refl _ _)), up_dr (up_al (up_al (Below.refl _ _) _) _)⟩
      case rest =>
      obtain ⟨A, B, rfl, rfl, bA, bB, HU⟩ := hcut
      clear HK r1 r2 c0 c1 c2 d0 d1 d2 n1 n2 n3 n4 n5 n6 n7 n8 m1 m2 m3 m4 m5 m6 m7 m8 l1 l2 l3 l4
      have x0 := blk_cell bA 0 _ rfl
      have x1 := blk_cell bA 1 _ rfl
      have x2 := blk_cell bA 2 _ rfl
      have y0 := blk_cell bB 0 _ rfl
      have y1 := blk_cell bB 1 _ rfl
      have y2 := blk_cell bB 2 _ rfl
      go_wp2_with fail
      refine (same_any yd yd _ _ _ (HO.out.1.up HU.out) (HO.out.2.up HU.out)).mono ?_
      rintro e wz ⟨rfl, rfl⟩
      have hd : decide (yd = yd) = true := by simp
      rw [hd]
      clear hd
      have HU2 : Hid (Below w2.heap.size w2 _) := up_trans HB.out HU.out
      go_wp2_with fail
      exact ⟨⟨k + 1, by omega, by go_num, HU2⟩, by simp [intOf]; omega⟩
    · have hlt' : ¬ (k : Int) < (s.files.length : Int) := by omega
      go_wp2_with fail
      go_ret
      exact ⟨rfl, UR.out⟩
end Go.Proofs.Ytoceddpjkodfkaa

/- The document's Run. -/
namespace Go.Proofs.Ytoceddpjkodfkaa
open Go.RowKit
set_option linter.unusedVariables false
set_option linter.unusedSimpArgs false

theorem do_good {s : St} (h : Good s) (a : Ac) : ((actP s a).2 = 0 ∧ doP s a = actP s a) ∨ (¬ (actP s a).2 = 0 ∧ (doP s a).2 = (actP s a).2 ∧ (actP s a).1 = s) := by
  by_cases c : (actP s a).2 = 0
  · left
    refine ⟨c, ?_⟩
    unfold doP
    rw [good_check h, if_pos rfl, if_pos c]
  · right
    refine ⟨c, ?_, act_refused s a c⟩
    unfold doP
    rw [good_check h, if_pos rfl, if_neg c]

set_option maxHeartbeats 8000000 in
set_option maxRecDepth 4000 in
theorem refRun_any (s : St) (l : List Ac) (v vk : Value) (w : World) (hv : StW w v s) (hk : ActsW w vk l) :
    Calls Try.prog 27 #[v, vk] w fun e w' => ∃ v', e = .returned (.tuple #[v', .int .i64 (runP s l).2.1, .int .i64 (runP s l).2.2]) ∧ OwnU w' w.heap.size v' (runP s l).1 ∧ Below w.heap.size w w' := by
  obtain ⟨af, cf, an, cn, as', cs', rfl⟩ := hv.form
  obtain ⟨ak, ck, rfl, hck, hmk⟩ := hk.len
  have hckm : l.length ≤ 9223372036854775807 := by unfold maxLen at hmk; omega
  have HV : Hid (StW w (.agg #[.int .i64 s.cap, .slice af s.files.length cf, .slice an s.names.length cn, .slice as' s.safe.length cs', .int .i64 s.next]) s) := hv
  have HK : Hid (ActsW w (.slice ak l.length ck) l) := hk
  obtain ⟨N, hN⟩ : ∃ N, N = w.heap.size := ⟨_, rfl⟩
  obtain ⟨wx, hwx⟩ : ∃ wx, wx = (w.alloc (.cells #[.int .i64 s.cap, .slice af s.files.length cf, .slice an s.names.length cn, .slice as' s.safe.length cs', .int .i64 s.next] 25)).alloc (.cells #[.int .i64 0, .slice none 0 0, .slice none 0 0, .slice none 0 0, .int .i64 0] 25) := ⟨_, rfl⟩
  have HWx : Hid ((w.alloc (.cells #[.int .i64 s.cap, .slice af s.files.length cf, .slice an s.names.length cn, .slice as' s.safe.length cs', .int .i64 s.next] 25)).alloc (.cells #[.int .i64 0, .slice none 0 0, .slice none 0 0, .slice none 0 0, .int .i64 0] 25) = wx) := hwx.symm
  have b0 : wx.heap[N]? = some (.cells #[.int .i64 s.cap, .slice af s.files.length cf, .slice an s.names.length cn, .slice as' s.safe.length cs', .int .i64 s.next] 25) := by rw [hwx, hN]; exact blk_two0 w _ _
  have b2 : wx.heap[N + 1]? = some (.cells #[.int .i64 0, .slice none 0 0, .slice none 0 0, .slice none 0 0, .int .i64 0] 25) := by rw [hwx, hN]; exact blk_two1 w _ _
  have UX : Hid (Below w.heap.size w wx) := by rw [hwx]; exact up_al (up_al (Below.refl _ _) _) _
  have HN : Hid (N = w.heap.size) := hN
  clear hv hk hwx hmk hck
  go_enter Try.func27, Try.ntmps27
  go_wp2_with fail
  rw [HWx.out, ← hN]
  clear HWx hN
  refine (refCheck_any s _ wx (HV.out.up UX.out)).mono ?_
  rintro e w1 ⟨rfl, u⟩
  have U1 : Hid (Below w.heap.size w w1) := up_trans UX.out u
  have B0 := blk_up b0 u
  have B2 := blk_up b2 u
  clear b0 b2 u UX
  cases hc : checkP s
  · have HR : Hid (runP s l = (z0, 0, 9)) := run_bad hc l
    have e9 : errOf false = 9 := rfl
    rw [e9]
    clear e9 hc
    obtain ⟨x0, x1, x2, x3, x4⟩ := box_cells B2
    have f0 := blk_frozen B2 0
    have f1 := blk_frozen B2 1
    have f2 := blk_frozen B2 2
    have f3 := blk_frozen B2 3
    have f4 := blk_frozen B2 4
    have b5 := set5_blk B2 (.int .i64 0) (.slice none 0 0) (.slice none 0 0) (.slice none 0 0) (.int .i64 0)
    clear B2
    go_wp2_with fail
    refine bodyPost_ret (results_docs2 rfl _ _ rfl rfl rfl b5) rfl ?_
    rw [HR.out]
    exact ⟨_, rfl, OwnU.zero _ _ 0 0 in64_0 in64_0, U1.out.grown (set5_grown _ _ _ _ _ _ _) U1.out.size (fun j hj => by injection hj with hj; rw [← hj, HN.out]; omega)⟩
  · have HG : Hid (Good s) := check_good hc
    have HR : Hid (runP s l = goP s l) := by unfold Hid runP; rw [hc]; rfl
    have e0 : errOf true = 0 := rfl
    rw [e0]
    clear e0 hc
    have HAf : Hid (∀ k, k ≤ l.length → Good (afterN s l k)) := fun k hk => after_good HG.out l k hk
    obtain ⟨q0, q1, q2, q3, q4⟩ := box_cells B0
    have hfew := HG.out.few
    have hn1 := few_names HG.out.names
    have hn2 := few_names HG.out.safe
    go_wp2_with fail
    refine (refOwn_any s _ w1 (HV.out.up U1.out) hfew (by omega) (by omega)).mono ?_
    rintro e w2 ⟨v2, rfl, ou, u⟩
    obtain ⟨a2f, c2f, a2n, c2n, a2s, c2s, rfl⟩ := (StW.ownU ou).form
    have OT : Hid (OwnT (w2.alloc (.cells #[.int .i64 s.cap, .slice a2f s.files.length c2f, .slice a2n s.names.length c2n, .slice a2s s.safe.length c2s, .int .i64 s.next] 25)) w1.heap.size w2.heap.size s) := ou.laid
    have U3 : Hid (Below w1.heap.size w1 (w2.alloc (.cells #[.int .i64 s.cap, .slice a2f s.files.length c2f, .slice a2n s.names.length c2n, .slice a2s s.safe.length c2s, .int .i64 s.next] 25))) := up_al u _
    have hTw : w1.heap.size ≤ w2.heap.size := u.size
    have B2' := blk_up B2 U3.out
    have HB1 : Hid (N + 2 ≤ w1.heap.size) := by have := blk_lt B2; unfold Hid; omega
    clear ou u B2 B0 q0 q1 q2 q3 q4 hn1 hn2 hfew
    go_wp2_with fail
    generalize w2.alloc (.cells #[.int .i64 s.cap, .slice a2f s.files.length c2f, .slice a2n s.names.length c2n, .slice a2s s.safe.length c2s, .int .i64 s.next] 25) = w3 at *
    obtain ⟨T, hT⟩ : ∃ T, T = w2.heap.size := ⟨_, rfl⟩
    rw [← hT] at OT hTw ⊢
    have HTb : Hid (w1.heap.size ≤ T) := hTw
    clear hT hTw
    have U03 : Hid (Below w.heap.size w w3) := up_trans U1.out U3.out
    have HR3 : Hid (w3.heap[N + 1]? = some (.cells #[.int .i64 0, .slice none 0 0, .slice none 0 0, .slice none 0 0, .int .i64 0] 25)) := B2'
    have hb3 : w1.heap.size ≤ w3.heap.size := U3.out.size
    clear B2'
    go_loopw [8] (fun i wr => ∃ k : Nat, k ≤ l.length ∧ i = .int .i64 k ∧ Hid (OwnT wr w1.heap.size T (afterN s l k)) ∧ Hid (Beside w1.heap.size T w3 wr) ∧ Hid (OkTo s l k)) (fun i _ => l.length - (intOf i).toNat)
    case atStart => exact ⟨0, Nat.zero_le _, rfl, OT, Beside.refl _ _ _, fun j hj => by omega⟩
    case round =>
      obtain ⟨k, hk, rfl, HO, be, ok⟩ := hrel
      have UR : Hid (Below w.heap.size w wr) := U03.out.trans ((be.out.below HTb.out).mono U1.out.size)
      have hbr : w1.heap.size ≤ wr.heap.size := Nat.le_trans hb3 be.out.size
      have bR : Hid (wr.heap[N + 1]? = some (.cells #[.int .i64 0, .slice none 0 0, .slice none 0 0, .slice none 0 0, .int .i64 0] 25)) := be.out.low HTb.out (by have := HB1.out; omega) HR3.out
      obtain ⟨vf, vn, vs, hb, ou⟩ := HO.out.take
      obtain ⟨b1, n1, e1, b2, n2, e2, b3, n3, e3, ev⟩ := ou.shape
      simp at ev
      obtain ⟨rfl, rfl, rfl⟩ := ev
      have HGk : Hid (Good (afterN s l k)) := HAf.out k hk
      by_cases hlt : k < l.length
      · have hlt' : (k : Int) < (l.length : Int) := by omega
        obtain ⟨bk, ok', cpk, ad, cd, ek, k0, k1, k2, k3, hac⟩ := (HK.out.up UR.out).at k hlt
        simp at ek
        obtain ⟨rfl, rfl⟩ := ek
        obtain ⟨sk, hsk⟩ : ∃ sk, sk = afterN s l k := ⟨_, rfl⟩
        have HSk : Hid (sk = afterN s l k) := hsk
        rw [← hsk] at HO hb ou HGk
        obtain ⟨a, ha⟩ : ∃ a, a = l.getD k noAc := ⟨_, rfl⟩
        rw [← ha] at k0 k1 k2 k3 hac
        obtain ⟨dn, hdn⟩ : ∃ dn, dn = a.data.length := ⟨_, rfl⟩
        rw [← hdn] at k3 hac
        have HAc : Hid (AcW wr (.agg #[.int .i64 a.what, .string (strOfNums a.name), .string (strOfNums a.dest), .slice ad dn cd]) a) := hac
        have HAd : Hid (a = l.getD k noAc) := ha
        have HKl : Hid (k < l.length) := hlt
        have HBt : Hid (wr.heap[T]? = some (.cells #[.int .i64 sk.cap, .slice b1 n1 e1, .slice b2 n2 e2, .slice b3 n3 e3, .int .i64 sk.next] 25)) := hb
        have HOu : Hid (OwnU wr w1.heap.size (.agg #[.int .i64 sk.cap, .slice b1 n1 e1, .slice b2 n2 e2, .slice b3 n3 e3, .int .i64 sk.next]) sk) := ou
        obtain ⟨D, hD⟩ : ∃ D, D = doP sk a := ⟨_, rfl⟩
        have HD : Hid (D = doP sk a) := hD
        clear hac ha hdn hsk hD ou
        obtain ⟨t0, t1, t2, t3, t4⟩ := box_cells hb
        have HC0 : Hid (∀ X, Below wr.heap.size wr X → Calls Try.prog 12 #[.agg #[.int .i64 sk.cap, .slice b1 n1 e1, .slice b2 n2 e2, .slice b3 n3 e3, .int .i64 sk.next], .agg #[.int .i64 a.what, .string (strOfNums a.name), .string (strOfNums a.dest), .slice ad dn cd]] X fun e w' => ∃ d1 m1 g1 d2 m2 g2 d3 m3 g3, e = .returned (.tuple #[.agg #[.int .i64 D.1.cap, .slice d1 m1 g1, .slice d2 m2 g2, .slice d3 m3 g3, .int .i64 D.1.next], .int .i64 D.2]) ∧ Hid (OwnU w' wr.heap.size (.agg #[.int .i64 D.1.cap, .slice d1 m1 g1, .slice d2 m2 g2, .slice d3 m3 g3, .int .i64 D.1.next]) D.1 ∧ Below X.heap.size X w')) := by
          intro X ud
          refine (refDo_any sk a _ _ X ((StW.ownU HOu.out).up ud) (HAc.out.up ud)).mono ?_
          rintro e w' ⟨v', rfl, ov, hu⟩
          rw [← HD.out] at ov ⊢
          obtain ⟨d1, m1, g1, d2, m2, g2, d3, m3, g3, ev⟩ := ov.shape
          subst ev
          exact ⟨d1, m1, g1, d2, m2, g2, d3, m3, g3, rfl, ov.mono ud.size, hu⟩
        have HC : Hid (Calls Try.prog 12 #[.agg #[.int .i64 sk.cap, .slice b1 n1 e1, .slice b2 n2 e2, .slice b3 n3 e3, .int .i64 sk.next], .agg #[.int .i64 a.what, .string (strOfNums a.name), .string (strOfNums a.dest), .slice ad dn cd]] wr.drew fun e w' => ∃ d1 m1 g1 d2 m2 g2 d3 m3 g3, e = .returned (.tuple #[.agg #[.int .i64 D.1.cap, .slice d1 m1 g1, .slice d2 m2 g2, .slice d3 m3 g3, .int .i64 D.1.next], .int .i64 D.2]) ∧ Hid (OwnU w' wr.heap.size (.agg #[.int .i64 D.1.cap, .slice d1 m1 g1, .slice d2 m2 g2, .slice d3 m3 g3, .int .i64 D.1.next]) D.1 ∧ Below wr.heap.size wr w')) := by
          have ud : Below wr.heap.size wr wr.drew := up_dr (Below.refl _ _)
          refine (HC0.out _ ud).mono ?_
          rintro e w' ⟨d1, m1, g1, d2, m2, g2, d3, m3, g3, rfl, h⟩
          exact ⟨d1, m1, g1, d2, m2, g2, d3, m3, g3, rfl, h.out.1, up_trans ud h.out.2⟩
        have HC2 : Hid (Calls Try.prog 12 #[.agg #[.int .i64 sk.cap, .slice b1 n1 e1, .slice b2 n2 e2, .slice b3 n3 e3, .int .i64 sk.next], .agg #[.int .i64 a.what, .string (strOfNums a.name), .string (strOfNums a.dest), .slice ad dn cd]] (wr.alloc (.cells #[.int .i64 0, .slice none 0 0, .slice none 0 0, .slice none 0 0, .int .i64 0] 25)).drew fun e w' => ∃ d1 m1 g1 d2 m2 g2 d3 m3 g3, e = .returned (.tuple #[.agg #[.int .i64 D.1.cap, .slice d1 m1 g1, .slice d2 m2 g2, .slice d3 m3 g3, .int .i64 D.1.next], .int .i64 D.2]) ∧ w'.cell? ⟨wr.heap.size, 0, none⟩ = some (.int .i64 0) ∧ w'.cell? ⟨wr.heap.size, 1, none⟩ = some (.slice none 0 0) ∧ w'.cell? ⟨wr.heap.size, 2, none⟩ = some (.slice none 0 0) ∧ w'.cell? ⟨wr.heap.size, 3, none⟩ = some (.slice none 0 0) ∧ w'.cell? ⟨wr.heap.size, 4, none⟩ = some (.int .i64 0) ∧ w'.frozen? ⟨wr.heap.size, 0, none⟩ = false ∧ w'.frozen? ⟨wr.heap.size, 1, none⟩ = false ∧ w'.frozen? ⟨wr.heap.size, 2, none⟩ = false ∧ w'.frozen? ⟨wr.heap.size, 3, none⟩ = false ∧ w'.frozen? ⟨wr.heap.size, 4, none⟩ = false ∧
            Hid (OwnT ((((((w'.setCell ⟨wr.heap.size, 0, none⟩ (.int .i64 D.1.cap)).setCell ⟨wr.heap.size, 1, none⟩ (.slice d1 m1 g1)).setCell ⟨wr.heap.size, 2, none⟩ (.slice d2 m2 g2)).setCell ⟨wr.heap.size, 3, none⟩ (.slice d3 m3 g3)).setCell ⟨wr.heap.size, 4, none⟩ (.int .i64 D.1.next))) wr.heap.size wr.heap.size D.1 ∧ Below wr.heap.size wr ((((((w'.setCell ⟨wr.heap.size, 0, none⟩ (.int .i64 D.1.cap)).setCell ⟨wr.heap.size, 1, none⟩ (.slice d1 m1 g1)).setCell ⟨wr.heap.size, 2, none⟩ (.slice d2 m2 g2)).setCell ⟨wr.heap.size, 3, none⟩ (.slice d3 m3 g3)).setCell ⟨wr.heap.size, 4, none⟩ (.int .i64 D.1.next))))) := by
          have ud : Below wr.heap.size wr (wr.alloc (.cells #[.int .i64 0, .slice none 0 0, .slice none 0 0, .slice none 0 0, .int .i64 0] 25)).drew := up_dr (up_al (Below.refl _ _) _)
          refine (HC0.out _ ud).mono ?_
          rintro e w' ⟨d1, m1, g1, d2, m2, g2, d3, m3, g3, rfl, h⟩
          have hb9 : w'.heap[wr.heap.size]? = some (.cells #[.int .i64 0, .slice none 0 0, .slice none 0 0, .slice none 0 0, .int .i64 0] 25) := blk_up (blk_up (blk_new wr (.cells #[.int .i64 0, .slice none 0 0, .slice none 0 0, .slice none 0 0, .int .i64 0] 25)) (up_dr (Below.refl _ _))) h.out.2
          have uu := up_trans ud h.out.2
          have pp := h.out.1.put2 hb9
          exact ⟨d1, m1, g1, d2, m2, g2, d3, m3, g3, rfl, blk_cell hb9 0 _ rfl, blk_cell hb9 1 _ rfl, blk_cell hb9 2 _ rfl, blk_cell hb9 3 _ rfl, blk_cell hb9 4 _ rfl, blk_frozen hb9 0, blk_frozen hb9 1, blk_frozen hb9 2, blk_frozen hb9 3, blk_frozen hb9 4, pp.1, uu.grown pp.2 uu.size (fun j hj => by injection hj with hj; rw [← hj]; exact Nat.le_refl _)⟩
        clear HC0 hb
        have y0 := fun o => Lib.cell?_alloc_marked o t0
        have y1 := fun o => Lib.cell?_alloc_marked o t1
        have y2 := fun o => Lib.cell?_alloc_marked o t2
        have y3 := fun o => Lib.cell?_alloc_marked o t3
        have y4 := fun o => Lib.cell?_alloc_marked o t4
        have z0 := fun o => Lib.cell?_alloc_marked o k0
        have z1 := fun o => Lib.cell?_alloc_marked o k1
        have z2 := fun o => Lib.cell?_alloc_marked o k2
        have z3 := fun o => Lib.cell?_alloc_marked o k3
        go_upto_region 7 with fail
        go_cut [9, 10] from 23 to 31 (fun s9 s10 wx => ∃ C, s9 = .pointer (some ⟨C, 0, none⟩) ∧ s10 = .int .i64 D.2 ∧ Hid (OwnT wx wr.heap.size C D.1 ∧ Below wr.heap.size wr wx))
        case first =>
          go_region_with (first | (go_at_call 12; refine HC.out.mono ?_; rintro e w' ⟨d1, m1, g1, d2, m2, g2, d3, m3, g3, rfl, hs⟩) | (go_at_call 12; refine HC2.out.mono ?_; rintro e w' ⟨d1, m1, g1, d2, m2, g2, d3, m3, g3, rfl, x0, x1, x2, x3, x4, f0, f1, f2, f3, f4, hs⟩))
          all_goals
            go_wp2_with fail
            go_meet
            case rel => first | exact ⟨_, rfl, rfl, hs.out.1.laid, up_al hs.out.2 _⟩ | exact ⟨_, rfl, rfl, hs.out.1, hs.out.2⟩
        case rest =>
        obtain ⟨C, rfl, rfl, HCc⟩ := hcut
        clear HC HC2 y0 y1 y2 y3 y4 z0 z1 z2 z3 t0 t1 t2 t3 t4 k0 k1 k2 k3
        have bT := blk_up HBt.out HCc.out.2
        have bRc := blk_up bR.out HCc.out.2
        have UC : Hid (Below w.heap.size w wc) := up_trans UR.out HCc.out.2
        obtain ⟨t0, t1, t2, t3, t4⟩ := box_cells bT
        rcases do_good HGk.out a with ⟨hz, hd⟩ | ⟨hz, hd1, hd2⟩
        · have hz2 : D.2 = 0 := by rw [HD.out, hd]; exact hz
          obtain ⟨wf, wn, wv, hbC, ouC⟩ := HCc.out.1.take
          obtain ⟨d1, m1, g1, d2, m2, g2, d3, m3, g3, ev⟩ := ouC.shape
          simp at ev
          obtain ⟨rfl, rfl, rfl⟩ := ev
          obtain ⟨x0, x1, x2, x3, x4⟩ := box_cells hbC
          have pp := ouC.put2 bT
          have HN4 : Hid (OwnT ((((((wc.setCell ⟨T, 0, none⟩ (.int .i64 D.1.cap)).setCell ⟨T, 1, none⟩ (.slice d1 m1 g1)).setCell ⟨T, 2, none⟩ (.slice d2 m2 g2)).setCell ⟨T, 3, none⟩ (.slice d3 m3 g3)).setCell ⟨T, 4, none⟩ (.int .i64 D.1.next))) w1.heap.size T (afterN s l (k + 1))) := by
            unfold Hid
            have hD1 : D.1 = afterN s l (k + 1) := by
              rw [afterN_succ s l k HKl.out, HD.out, hd, HSk.out, HAd.out]
            rw [← hD1]
            obtain ⟨h0, q1, q2, q3, q4, q5, q6, q7, q8, q9, q10⟩ := pp.1
            exact ⟨h0, q1, q2, q3, q4, q5, q6, q7.mono hbr, q8.mono hbr, q9.mono hbr, q10⟩
          have HB4 : Hid (Beside w1.heap.size T w3 ((((((wc.setCell ⟨T, 0, none⟩ (.int .i64 D.1.cap)).setCell ⟨T, 1, none⟩ (.slice d1 m1 g1)).setCell ⟨T, 2, none⟩ (.slice d2 m2 g2)).setCell ⟨T, 3, none⟩ (.slice d3 m3 g3)).setCell ⟨T, 4, none⟩ (.int .i64 D.1.next)))) := (be.out.trans (Below_beside HCc.out.2 hbr)).grown pp.2 (Nat.le_trans hbr HCc.out.2.size) (fun j hj => by injection hj with hj; rw [← hj]; exact .inr rfl)
          have HOk : Hid (OkTo s l (k + 1)) := okTo_succ ok.out (by rw [← HSk.out, ← HAd.out]; exact hz)
          have f0 := blk_frozen bT 0
          have f1 := blk_frozen bT 1
          have f2 := blk_frozen bT 2
          have f3 := blk_frozen bT 3
          have f4 := blk_frozen bT 4
          clear pp hbC ouC bT bRc
          go_wp2_with fail
          exact ⟨⟨k + 1, by have := HKl.out; omega, by go_num, HN4, HB4, HOk⟩, by have := HKl.out; simp [intOf]; omega⟩
        · have hz2 : ¬ D.2 = 0 := by rw [HD.out, hd1]; exact hz
          have hz3 : (D.2 == 0) = false := by rw [beq_eq_false_iff_ne]; exact hz2
          have HGo : Hid (runP s l = (sk, (k : Int), D.2)) := by
            unfold Hid
            rw [HR.out, run_stop ok.out HKl.out (by rw [← HSk.out, ← HAd.out]; exact hz), ← HSk.out, ← HAd.out, hd2, HD.out, hd1]
          obtain ⟨x0, x1, x2, x3, x4⟩ := box_cells bRc
          have f0 := blk_frozen bRc 0
          have f1 := blk_frozen bRc 1
          have f2 := blk_frozen bRc 2
          have f3 := blk_frozen bRc 3
          have f4 := blk_frozen bRc 4
          have b5 := set5_blk bRc (.int .i64 sk.cap) (.slice b1 n1 e1) (.slice b2 n2 e2) (.slice b3 n3 e3) (.int .i64 sk.next)
          have HV5 := ((HOu.out.up HCc.out.2).put bRc).2
          replace HV5 : Hid (OwnU (set5 wc (N + 1) (.int .i64 sk.cap) (.slice b1 n1 e1) (.slice b2 n2 e2) (.slice b3 n3 e3) (.int .i64 sk.next)) w1.heap.size (.agg #[.int .i64 sk.cap, .slice b1 n1 e1, .slice b2 n2 e2, .slice b3 n3 e3, .int .i64 sk.next]) sk) := HV5
          clear bRc bT hd1 hd2
          go_wp2_with fail
          refine bodyPost_ret (results_docs2 rfl _ _ rfl rfl rfl b5) rfl ?_
          rw [HGo.out]
          exact ⟨_, rfl, HV5.out.mono U1.out.size, UC.out.grown (set5_grown _ _ _ _ _ _ _) UC.out.size (fun j hj => by injection hj with hj; rw [← hj, HN.out]; omega)⟩
      · have hlt' : ¬ (k : Int) < (l.length : Int) := by omega
        obtain rfl : k = l.length := by omega
        have HGo : Hid (runP s l = (afterN s l l.length, (l.length : Int), 0)) := by
          unfold Hid
          rw [HR.out, run_end ok.out]
        obtain ⟨sk, hsk⟩ : ∃ sk, sk = afterN s l l.length := ⟨_, rfl⟩
        rw [← hsk] at HGo hb ou
        clear hsk
        obtain ⟨t0, t1, t2, t3, t4⟩ := box_cells hb
        obtain ⟨x0, x1, x2, x3, x4⟩ := box_cells bR.out
        have f0 := blk_frozen bR.out 0
        have f1 := blk_frozen bR.out 1
        have f2 := blk_frozen bR.out 2
        have f3 := blk_frozen bR.out 3
        have f4 := blk_frozen bR.out 4
        have b5 := set5_blk bR.out (.int .i64 sk.cap) (.slice b1 n1 e1) (.slice b2 n2 e2) (.slice b3 n3 e3) (.int .i64 sk.next)
        have HV5 : Hid (OwnU (set5 wr (N + 1) (.int .i64 sk.cap) (.slice b1 n1 e1) (.slice b2 n2 e2) (.slice b3 n3 e3) (.int .i64 sk.next)) w1.heap.size (.agg #[.int .i64 sk.cap, .slice b1 n1 e1, .slice b2 n2 e2, .slice b3 n3 e3, .int .i64 sk.next]) sk) := (ou.put bR.out).2
        clear hb ou
        go_wp2_with fail
        refine bodyPost_ret (results_docs2 rfl _ _ rfl rfl rfl b5) rfl ?_
        rw [HGo.out]
        exact ⟨_, rfl, HV5.out.mono U1.out.size, UR.out.grown (set5_grown _ _ _ _ _ _ _) UR.out.size (fun j hj => by injection hj with hj; rw [← hj, HN.out]; omega)⟩
end Go.Proofs.Ytoceddpjkodfkaa
