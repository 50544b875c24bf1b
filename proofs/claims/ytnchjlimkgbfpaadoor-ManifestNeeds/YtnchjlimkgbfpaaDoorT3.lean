/- The law's own maker of the program's states. -/
import Derived.Test.YtnchjlimkgbfpaaDoorG13
namespace Go.Proofs.YtnchjlimkgbfpaaDoor
open Go.RowKit
set_option linter.unusedVariables false
set_option linter.unusedSimpArgs false

set_option maxHeartbeats 8000000 in
set_option maxRecDepth 2000 in
theorem of_any (s : St) (v : Value) (w : World) (hv : StW w v s) (h1 : s.files.length * 40 ≤ 140737488351232) (h2 : s.names.length * 24 ≤ 140737488351232) (h3 : s.safe.length * 24 ≤ 140737488351232) :
    Calls Tryd.prog 11 #[v] w fun e w' => ∃ v', e = .returned v' ∧ OwnV w' w.heap.size v' s ∧ Below w.heap.size w w' := by
  obtain ⟨af, nf, cf, an, nn, cn, as', ns, cs', ev⟩ := hv.shape
  subst ev
  obtain ⟨vf, vn, vs, ev, hf, hn, hs, hi1, hi2⟩ := hv
  simp at ev
  obtain ⟨rfl, rfl, rfl⟩ := ev
  obtain ⟨wx, hwx⟩ : ∃ wx, wx = (w.alloc (.cells #[.int .i64 s.cap, .slice af nf cf, .slice an nn cn, .slice as' ns cs', .int .i64 s.next] 35)).alloc (.cells #[.int .i64 0, .slice none 0 0, .slice none 0 0, .slice none 0 0, .int .i64 0] 42) := ⟨_, rfl⟩
  have HX : Hid ((w.alloc (.cells #[.int .i64 s.cap, .slice af nf cf, .slice an nn cn, .slice as' ns cs', .int .i64 s.next] 35)).alloc (.cells #[.int .i64 0, .slice none 0 0, .slice none 0 0, .slice none 0 0, .int .i64 0] 42) = wx) := hwx.symm
  have b0 : wx.heap[w.heap.size]? = some (.cells #[.int .i64 s.cap, .slice af nf cf, .slice an nn cn, .slice as' ns cs', .int .i64 s.next] 35) := by rw [hwx]; exact blk_two0 w _ _
  have b1 : wx.heap[w.heap.size + 1]? = some (.cells #[.int .i64 0, .slice none 0 0, .slice none 0 0, .slice none 0 0, .int .i64 0] 42) := by rw [hwx]; exact blk_two1 w _ _
  have up : Hid (Below w.heap.size w wx) := by rw [hwx]; exact up_al (up_al (Below.refl _ _) _) _
  have HB : Hid (wx.heap[w.heap.size]? = some (.cells #[.int .i64 s.cap, .slice af nf cf, .slice an nn cn, .slice as' ns cs', .int .i64 s.next] 35) ∧ wx.heap[w.heap.size + 1]? = some (.cells #[.int .i64 0, .slice none 0 0, .slice none 0 0, .slice none 0 0, .int .i64 0] 42)) := ⟨b0, b1⟩
  have HI : Hid (In64 s.cap ∧ In64 s.next) := ⟨hi1, hi2⟩
  have HF : Hid (∀ X, Below wx.heap.size wx X → Calls Tryd.prog 19 #[.slice af nf cf] X fun e w' => ∃ a1 n1 c1, e = .returned (.slice a1 n1 c1) ∧ w'.cell? ⟨w.heap.size, 0, none⟩ = some (.int .i64 s.cap) ∧ w'.cell? ⟨w.heap.size, 1, none⟩ = some (.slice af nf cf) ∧ w'.cell? ⟨w.heap.size, 2, none⟩ = some (.slice an nn cn) ∧ w'.cell? ⟨w.heap.size, 3, none⟩ = some (.slice as' ns cs') ∧ w'.cell? ⟨w.heap.size, 4, none⟩ = some (.int .i64 s.next) ∧ w'.cell? ⟨w.heap.size + 1, 0, none⟩ = some (.int .i64 0) ∧ w'.cell? ⟨w.heap.size + 1, 1, none⟩ = some (.slice none 0 0) ∧ w'.cell? ⟨w.heap.size + 1, 2, none⟩ = some (.slice none 0 0) ∧ w'.cell? ⟨w.heap.size + 1, 3, none⟩ = some (.slice none 0 0) ∧ w'.cell? ⟨w.heap.size + 1, 4, none⟩ = some (.int .i64 0) ∧ w'.frozen? ⟨w.heap.size + 1, 0, none⟩ = false ∧ w'.frozen? ⟨w.heap.size + 1, 1, none⟩ = false ∧ w'.frozen? ⟨w.heap.size + 1, 2, none⟩ = false ∧ w'.frozen? ⟨w.heap.size + 1, 3, none⟩ = false ∧ w'.frozen? ⟨w.heap.size + 1, 4, none⟩ = false ∧ Hid ((∃ m : List FRow, m.map (·.2) = s.files ∧ OwnF w' X.heap.size (.slice a1 n1 c1) m) ∧ wx.heap.size ≤ X.heap.size) ∧ Hid (Below X.heap.size X w') ∧ Hid (Below wx.heap.size wx w')) := by
    intro X hX
    refine (some_any s.files _ X (hf.up (up_trans up.out hX)) h1).mono ?_
    rintro e w' ⟨v', rfl, m, hm, of, hu⟩
    obtain ⟨a1, c1, e1, _, _⟩ := (FilesW.own of).len
    subst e1
    have k0 := blk_up HB.out.1 (up_trans hX hu)
    have k1 := blk_up HB.out.2 (up_trans hX hu)
    exact ⟨a1, _, c1, rfl, blk_cell k0 0 _ rfl, blk_cell k0 1 _ rfl, blk_cell k0 2 _ rfl, blk_cell k0 3 _ rfl, blk_cell k0 4 _ rfl, blk_cell k1 0 _ rfl, blk_cell k1 1 _ rfl, blk_cell k1 2 _ rfl, blk_cell k1 3 _ rfl, blk_cell k1 4 _ rfl, blk_frozen k1 0, blk_frozen k1 1, blk_frozen k1 2, blk_frozen k1 3, blk_frozen k1 4, ⟨⟨m, hm, of⟩, hX.size⟩, hu, up_trans hX hu⟩
  have HNm : Hid (∀ X, Below wx.heap.size wx X → Calls Tryd.prog 20 #[.slice an nn cn] X fun e w' => ∃ a2 n2 c2, e = .returned (.slice a2 n2 c2) ∧ w'.cell? ⟨w.heap.size, 0, none⟩ = some (.int .i64 s.cap) ∧ w'.cell? ⟨w.heap.size, 1, none⟩ = some (.slice af nf cf) ∧ w'.cell? ⟨w.heap.size, 2, none⟩ = some (.slice an nn cn) ∧ w'.cell? ⟨w.heap.size, 3, none⟩ = some (.slice as' ns cs') ∧ w'.cell? ⟨w.heap.size, 4, none⟩ = some (.int .i64 s.next) ∧ w'.cell? ⟨w.heap.size + 1, 0, none⟩ = some (.int .i64 0) ∧ w'.cell? ⟨w.heap.size + 1, 1, none⟩ = some (.slice none 0 0) ∧ w'.cell? ⟨w.heap.size + 1, 2, none⟩ = some (.slice none 0 0) ∧ w'.cell? ⟨w.heap.size + 1, 3, none⟩ = some (.slice none 0 0) ∧ w'.cell? ⟨w.heap.size + 1, 4, none⟩ = some (.int .i64 0) ∧ w'.frozen? ⟨w.heap.size + 1, 0, none⟩ = false ∧ w'.frozen? ⟨w.heap.size + 1, 1, none⟩ = false ∧ w'.frozen? ⟨w.heap.size + 1, 2, none⟩ = false ∧ w'.frozen? ⟨w.heap.size + 1, 3, none⟩ = false ∧ w'.frozen? ⟨w.heap.size + 1, 4, none⟩ = false ∧ Hid (OwnN w' X.heap.size 74 (.slice a2 n2 c2) s.names ∧ wx.heap.size ≤ X.heap.size) ∧ Hid (Below X.heap.size X w') ∧ Hid (Below wx.heap.size wx w')) := by
    intro X hX
    refine (names_any s.names _ X (hn.up (up_trans up.out hX)) h2).mono ?_
    rintro e w' ⟨v', rfl, on, hu⟩
    obtain ⟨a1, c1, e1, _, _⟩ := (NamesW.own on).len
    subst e1
    have k0 := blk_up HB.out.1 (up_trans hX hu)
    have k1 := blk_up HB.out.2 (up_trans hX hu)
    exact ⟨a1, _, c1, rfl, blk_cell k0 0 _ rfl, blk_cell k0 1 _ rfl, blk_cell k0 2 _ rfl, blk_cell k0 3 _ rfl, blk_cell k0 4 _ rfl, blk_cell k1 0 _ rfl, blk_cell k1 1 _ rfl, blk_cell k1 2 _ rfl, blk_cell k1 3 _ rfl, blk_cell k1 4 _ rfl, blk_frozen k1 0, blk_frozen k1 1, blk_frozen k1 2, blk_frozen k1 3, blk_frozen k1 4, ⟨on, hX.size⟩, hu, up_trans hX hu⟩
  have HSf : Hid (∀ X, Below wx.heap.size wx X → Calls Tryd.prog 20 #[.slice as' ns cs'] X fun e w' => ∃ a3 n3 c3, e = .returned (.slice a3 n3 c3) ∧ w'.cell? ⟨w.heap.size, 0, none⟩ = some (.int .i64 s.cap) ∧ w'.cell? ⟨w.heap.size, 1, none⟩ = some (.slice af nf cf) ∧ w'.cell? ⟨w.heap.size, 2, none⟩ = some (.slice an nn cn) ∧ w'.cell? ⟨w.heap.size, 3, none⟩ = some (.slice as' ns cs') ∧ w'.cell? ⟨w.heap.size, 4, none⟩ = some (.int .i64 s.next) ∧ w'.cell? ⟨w.heap.size + 1, 0, none⟩ = some (.int .i64 0) ∧ w'.cell? ⟨w.heap.size + 1, 1, none⟩ = some (.slice none 0 0) ∧ w'.cell? ⟨w.heap.size + 1, 2, none⟩ = some (.slice none 0 0) ∧ w'.cell? ⟨w.heap.size + 1, 3, none⟩ = some (.slice none 0 0) ∧ w'.cell? ⟨w.heap.size + 1, 4, none⟩ = some (.int .i64 0) ∧ w'.frozen? ⟨w.heap.size + 1, 0, none⟩ = false ∧ w'.frozen? ⟨w.heap.size + 1, 1, none⟩ = false ∧ w'.frozen? ⟨w.heap.size + 1, 2, none⟩ = false ∧ w'.frozen? ⟨w.heap.size + 1, 3, none⟩ = false ∧ w'.frozen? ⟨w.heap.size + 1, 4, none⟩ = false ∧ Hid (OwnN w' X.heap.size 74 (.slice a3 n3 c3) s.safe ∧ wx.heap.size ≤ X.heap.size) ∧ Hid (Below X.heap.size X w') ∧ Hid (Below wx.heap.size wx w')) := by
    intro X hX
    refine (names_any s.safe _ X (hs.up (up_trans up.out hX)) h3).mono ?_
    rintro e w' ⟨v', rfl, on, hu⟩
    obtain ⟨a1, c1, e1, _, _⟩ := (NamesW.own on).len
    subst e1
    have k0 := blk_up HB.out.1 (up_trans hX hu)
    have k1 := blk_up HB.out.2 (up_trans hX hu)
    exact ⟨a1, _, c1, rfl, blk_cell k0 0 _ rfl, blk_cell k0 1 _ rfl, blk_cell k0 2 _ rfl, blk_cell k0 3 _ rfl, blk_cell k0 4 _ rfl, blk_cell k1 0 _ rfl, blk_cell k1 1 _ rfl, blk_cell k1 2 _ rfl, blk_cell k1 3 _ rfl, blk_cell k1 4 _ rfl, blk_frozen k1 0, blk_frozen k1 1, blk_frozen k1 2, blk_frozen k1 3, blk_frozen k1 4, ⟨on, hX.size⟩, hu, up_trans hX hu⟩
  have U0 : Hid (Below wx.heap.size wx wx.drew) := up_dr (Below.refl _ _)
  clear hwx hf hn hs hi1 hi2 h1 h2 h3
  go_enter Tryd.func11, Tryd.ntmps11
  go_upto_region 1 with fail
  rw [HX.out]
  clear HX
  have q0 := blk_cell b0 0 _ rfl
  have q1 := blk_cell b0 1 _ rfl
  have q2 := blk_cell b0 2 _ rfl
  have q3 := blk_cell b0 3 _ rfl
  have q4 := blk_cell b0 4 _ rfl
  have p0 := blk_cell b1 0 _ rfl
  have p1 := blk_cell b1 1 _ rfl
  have p2 := blk_cell b1 2 _ rfl
  have p3 := blk_cell b1 3 _ rfl
  have p4 := blk_cell b1 4 _ rfl
  clear b0 b1
  go_region_held3 (fun w' => w'.cell? ⟨w.heap.size, 0, none⟩ = some (.int .i64 s.cap) ∧ w'.cell? ⟨w.heap.size, 1, none⟩ = some (.slice af nf cf) ∧ w'.cell? ⟨w.heap.size, 2, none⟩ = some (.slice an nn cn) ∧ w'.cell? ⟨w.heap.size, 3, none⟩ = some (.slice as' ns cs') ∧ w'.cell? ⟨w.heap.size, 4, none⟩ = some (.int .i64 s.next)) (first | with_reducible exact ⟨y0, y1, y2, y3, y4⟩ | with_reducible exact ⟨q0, q1, q2, q3, q4⟩ | (simp [go_sem, y0, y1, y2, y3, y4]; done) | (simp [go_sem, q0, q1, q2, q3, q4]; done)) (first | (go_at_call 19; with_reducible refine (HF.out _ (by first | exact ub.out | exact U0.out)).mono ?_; rintro e w' ⟨a1, n1, c1, rfl, y0, y1, y2, y3, y4, x0, x1, x2, x3, x4, f0, f1, f2, f3, f4, of, uf, ub⟩) | (go_at_call 20; with_reducible refine (HNm.out _ (by first | exact ub.out | exact U0.out)).mono ?_; rintro e w' ⟨a2, n2, c2, rfl, y0, y1, y2, y3, y4, x0, x1, x2, x3, x4, f0, f1, f2, f3, f4, on, un, ub⟩) | (go_at_call 20; with_reducible refine (HSf.out _ (by first | exact ub.out | exact U0.out)).mono ?_; rintro e w' ⟨a3, n3, c3, rfl, y0, y1, y2, y3, y4, x0, x1, x2, x3, x4, f0, f1, f2, f3, f4, os, us, ub⟩))
  all_goals
    have HP : Hid (OwnV w' w.heap.size (.agg #[.int .i64 s.cap, .slice a1 n1 c1, .slice a2 n2 c2, .slice a3 n3 c3, .int .i64 s.next]) s) := by
      obtain ⟨⟨m, hm, hf⟩, hsz⟩ := of.out
      have kf := (hf.mono hsz).mono up.out.size
      have kn := (on.out.1.mono on.out.2).mono up.out.size
      have ks := (os.out.1.mono os.out.2).mono up.out.size
      have af' : OwnF w' w.heap.size (.slice a1 n1 c1) m := by first | exact kf | exact kf.up un.out | exact kf.up us.out | exact kf.up (up_trans un.out us.out) | exact kf.up (up_trans us.out un.out)
      have an' : OwnN w' w.heap.size 74 (.slice a2 n2 c2) s.names := by first | exact kn | exact kn.up uf.out | exact kn.up us.out | exact kn.up (up_trans uf.out us.out) | exact kn.up (up_trans us.out uf.out)
      have as'' : OwnN w' w.heap.size 74 (.slice a3 n3 c3) s.safe := by first | exact ks | exact ks.up uf.out | exact ks.up un.out | exact ks.up (up_trans uf.out un.out) | exact ks.up (up_trans un.out uf.out)
      have ap : Apart (.slice a2 n2 c2) (.slice a3 n3 c3) := by
        first | exact apart_new on.out.1.2.2 os.out.1.2.2 | exact apart_new on.out.1.2.2 (os.out.1.mono uf.out.size).2.2 | exact (apart_new os.out.1.2.2 on.out.1.2.2).symm | exact (apart_new os.out.1.2.2 (on.out.1.mono uf.out.size).2.2).symm
      exact ⟨_, _, _, m, rfl, hm, af', an', as'', ap, HI.out.1, HI.out.2⟩
    have hb1 := blk_up HB.out.2 ub.out
    have HQ : Hid ((HP.out.put hb1).2 = (HP.out.put hb1).2) := rfl
    have HV5 : Hid (OwnV (set5 w' (w.heap.size + 1) (.int .i64 s.cap) (.slice a1 n1 c1) (.slice a2 n2 c2) (.slice a3 n3 c3) (.int .i64 s.next)) w.heap.size (.agg #[.int .i64 s.cap, .slice a1 n1 c1, .slice a2 n2 c2, .slice a3 n3 c3, .int .i64 s.next]) s) := (HP.out.put hb1).2
    have b5 := set5_blk hb1 (.int .i64 s.cap) (.slice a1 n1 c1) (.slice a2 n2 c2) (.slice a3 n3 c3) (.int .i64 s.next)
    have HU : Hid (Below w.heap.size w w') := up_trans up.out ub.out
    clear HQ
    go_wp2_with fail
    refine bodyPost_ret (results_state rfl _ _ rfl b5) rfl ?_
    refine ⟨_, rfl, HV5.out, ?_⟩
    exact HU.out.grown (set5_grown _ _ _ _ _ _ _) HU.out.size (fun j hj => by injection hj with hj; rw [← hj]; omega)
end Go.Proofs.YtnchjlimkgbfpaaDoor
