/- The texts OBegn, OCut, OSwm, FOct, in this order. -/
import Derived.Test.YtnchjlimkgbfpaaGreatDoorG35
import Derived.Test.YtnchjlimkgbfpaaGreatDoorG17
import Derived.Test.YtnchjlimkgbfpaaGreatDoorG18
import Derived.Test.YtnchjlimkgbfpaaGreatDoorG33
import Derived.Test.YtnchjlimkgbfpaaGreatDoorG25

/- The statement's begun. -/
namespace Go.Proofs.YtnchjlimkgbfpaaGreatDoor
open Go.RowKit
set_option linter.unusedVariables false
set_option linter.unusedSimpArgs false
set_option maxRecDepth 20000

theorem good_len {s : St} (h : Good s) : s.names.length + s.safe.length ≤ 512 := by
  have h1 := (check_sound (good_check h)).1.1
  have p := check_parts (good_check h)
  have h2 := names_len p.2.2.1
  have h3 := names_len p.2.2.2.1
  have := h.few
  omega
theorem laidA_ok (q : Bool) {x d : List Int} (hx : OctL x) (hl : x.length ≤ 32) (hd : d.length ≤ 140737488355328) : ∀ a ∈ laidA q x d, okAc a := by
  intro a ha
  unfold laidA at ha
  have h0 : OctL [] := by intro y hy; cases hy
  cases q <;> simp at ha
  · rcases ha with rfl | rfl | rfl <;> exact ⟨by simp [In64], hx, by simp only; omega, h0, by simp, by simp [hd]⟩
  · rcases ha with rfl | rfl | rfl | rfl <;> exact ⟨by simp [In64], hx, by simp only; omega, h0, by simp, by simp [hd]⟩
theorem begL_ok (s : St) {M F P : List Int} (hM : OctL M) (hl : M.length ≤ 32) (hF : F.length ≤ 140737488355328) (hP : P.length ≤ 140737488355328) : ∀ a ∈ begL s M F P, okAc a := by
  intro a ha
  have h0 : OctL [] := by intro y hy; cases hy
  unfold begL at ha
  rcases List.mem_append.1 ha with q | q
  · exact laidA_ok _ hM hl hF a q
  · rcases List.mem_append.1 q with q | q
    · exact laidA_ok _ nxt_oct (by decide) hP a q
    · simp at q
      rcases q with rfl | rfl | rfl
      · exact ⟨by simp [In64], h0, by simp, h0, by simp, by simp⟩
      · exact ⟨by simp [In64], nxt_oct, by decide, cur_oct, by decide, by simp⟩
      · exact ⟨by simp [In64], h0, by simp, h0, by simp, by simp⟩
theorem begP_ok {s : St} {ts : List Me} {sq nx id : Int} : ∀ a ∈ (begP s ts sq nx id).1, okAc a := by
  unfold begP
  split
  · split
    · split
      · rename_i h1 h2 h3
        have q := whole_enc (errV_zero.1 h2)
        have hn := nameN_octO h3
        have h4 : 1 ≤ id ∧ id ≤ 2147483647 := by simpa [idOk] using h3
        have hp := ptr_len h4
        have hf := edF_len q.2
        rw [hn.1]
        exact begL_ok s hn.2.1 (by have := hn.2.2; simp only; omega) (by omega) (by omega)
      · intro a ha; cases ha
    · intro a ha; cases ha
  · intro a ha; cases ha
theorem good_after {s : St} (h : Good s) (l : List Ac) : checkP s = true → ∀ k, k ≤ l.length → Sound (afterN s l k) := fun _ k hk => check_sound (good_check (after_good h l k hk))
/-- What begun answers. -/
def begunP (s : St) (ts : List Me) (sq nx id : Int) : St × Bool := if (begP s ts sq nx id).2 = 0 then ((runP s (begP s ts sq nx id).1).1, decide ((runP s (begP s ts sq nx id).1).2.2 = 0)) else (s, false)
theorem up_set5 {w W : World} {N : Nat} {a b c d e : Value} (h : Below w.heap.size w W) (hN : w.heap.size ≤ N) : Below w.heap.size w (((((W.setCell ⟨N, 0, none⟩ a).setCell ⟨N, 1, none⟩ b).setCell ⟨N, 2, none⟩ c).setCell ⟨N, 3, none⟩ d).setCell ⟨N, 4, none⟩ e) := by
  refine Below.grown (row := some N) h ?_ h.size (fun k hk => by injection hk with hk; omega)
  exact grown_trans (grown_trans (grown_trans (grown_trans (grown_set W ⟨N, 0, none⟩ a) (grown_set _ ⟨N, 1, none⟩ b)) (grown_set _ ⟨N, 2, none⟩ c)) (grown_set _ ⟨N, 3, none⟩ d)) (grown_set _ ⟨N, 4, none⟩ e)
theorem set5_blkS {W : World} {N : Nat} {x0 x1 x2 x3 x4 : Value} {t : TypeId} (h : W.heap[N]? = some (.cells #[x0, x1, x2, x3, x4] t)) (a b c d e : Value) : (((((W.setCell ⟨N, 0, none⟩ a).setCell ⟨N, 1, none⟩ b).setCell ⟨N, 2, none⟩ c).setCell ⟨N, 3, none⟩ d).setCell ⟨N, 4, none⟩ e).heap[N]? = some (.cells #[a, b, c, d, e] t) :=
  blk_set (blk_set (blk_set (blk_set (blk_set h 0 a) 1 b) 2 c) 3 d) 4 e
set_option maxHeartbeats 4000000 in
theorem begun_any (s : St) (v : Value) (ts : List Me) (seq next id : Int) (va : Option Addr) (vn vc : Nat) (w : World) (hg : Good s) (hv : StW w v s) (hm : MetsR w (.slice va vn vc) ts) (htl : ts.length ≤ 4000000000000) (he : EnvL w) :
    Calls Tryz.prog 25 #[v, .agg #[.slice va vn vc, .int .i64 seq, .int .i64 next], .int .i64 id] w fun e w' => ∃ v', e = .returned (.tuple #[v', .bool (begunP s ts seq next id).2]) ∧ Hid (StW w' v' (begunP s ts seq next id).1) ∧ Hid (Below w.heap.size w w') ∧ Hid ((begunP s ts seq next id).2 = true → OwnV w' w.heap.size v' (begunP s ts seq next id).1) := by
  have hgl := good_len hg
  obtain ⟨af, nf, cf, an, nn, cn, as', ns, cs', ev⟩ := hv.shape
  subst ev
  have HS : Hid (StW w (.agg #[.int .i64 s.cap, .slice af nf cf, .slice an nn cn, .slice as' ns cs', .int .i64 s.next]) s) := hv
  have HM : Hid (MetsR w (.slice va vn vc) ts) := hm
  have HE : Hid (EnvL w) := he
  have HG : Hid (Good s) := hg
  have HPd : Hid (begunP s ts seq next id = if (begP s ts seq next id).2 = 0 then ((runP s (begP s ts seq next id).1).1, decide ((runP s (begP s ts seq next id).1).2.2 = 0)) else (s, false)) := rfl
  have HOk := hid (begP_ok (s := s) (ts := ts) (sq := seq) (nx := next) (id := id))
  obtain ⟨w0, hw0⟩ : ∃ w0, w0 = ((w.alloc (.cells #[.int .i64 s.cap, .slice af nf cf, .slice an nn cn, .slice as' ns cs', .int .i64 s.next] 35)).alloc (.cells #[.slice va vn vc, .int .i64 seq, .int .i64 next] 28)).alloc (.cells #[.int .i64 0, .slice none 0 0, .slice none 0 0, .slice none 0 0, .int .i64 0] 35) := ⟨_, rfl⟩
  have HW0 : Hid (((w.alloc (.cells #[.int .i64 s.cap, .slice af nf cf, .slice an nn cn, .slice as' ns cs', .int .i64 s.next] 35)).alloc (.cells #[.slice va vn vc, .int .i64 seq, .int .i64 next] 28)).alloc (.cells #[.int .i64 0, .slice none 0 0, .slice none 0 0, .slice none 0 0, .int .i64 0] 35) = w0) := hid hw0.symm
  have U0 : Hid (Below w.heap.size w w0) := by rw [hw0]; exact up_al (up_al (up_alloc _ _) _) _
  have sz1 : ∀ (W : World) (o : Obj), (W.alloc o).heap.size = W.heap.size + 1 := fun W o => by simp
  have B0 : Hid (w0.heap[w.heap.size]? = some (.cells #[.int .i64 s.cap, .slice af nf cf, .slice an nn cn, .slice as' ns cs', .int .i64 s.next] 35)) := by rw [hw0]; exact blk_up (blk_new _ _) (up_al (up_alloc _ _) _)
  have B1 : Hid (w0.heap[w.heap.size + 1]? = some (.cells #[.slice va vn vc, .int .i64 seq, .int .i64 next] 28)) := by
    rw [hw0, ← sz1 w (.cells #[.int .i64 s.cap, .slice af nf cf, .slice an nn cn, .slice as' ns cs', .int .i64 s.next] 35)]
    exact blk_up (blk_new _ _) (up_alloc _ _)
  have B2 : Hid (w0.heap[w.heap.size + 1 + 1]? = some (.cells #[.int .i64 0, .slice none 0 0, .slice none 0 0, .slice none 0 0, .int .i64 0] 35)) := by
    rw [hw0, ← sz1 w (.cells #[.int .i64 s.cap, .slice af nf cf, .slice an nn cn, .slice as' ns cs', .int .i64 s.next] 35), ← sz1 _ (.cells #[.slice va vn vc, .int .i64 seq, .int .i64 next] 28)]
    exact blk_new _ _
  have HCE : Hid (∀ W, Below w0.heap.size w0 W → W.cell? ⟨w.heap.size, 0, none⟩ = some (.int .i64 s.cap) ∧ W.cell? ⟨w.heap.size, 1, none⟩ = some (.slice af nf cf) ∧ W.cell? ⟨w.heap.size, 2, none⟩ = some (.slice an nn cn) ∧ W.cell? ⟨w.heap.size, 3, none⟩ = some (.slice as' ns cs') ∧ W.cell? ⟨w.heap.size, 4, none⟩ = some (.int .i64 s.next) ∧ W.cell? ⟨w.heap.size + 1, 0, none⟩ = some (.slice va vn vc) ∧ W.cell? ⟨w.heap.size + 1, 1, none⟩ = some (.int .i64 seq) ∧ W.cell? ⟨w.heap.size + 1, 2, none⟩ = some (.int .i64 next)) := fun W h => ⟨blk_cell (blk_up B0.out h) 0 _ rfl, blk_cell (blk_up B0.out h) 1 _ rfl, blk_cell (blk_up B0.out h) 2 _ rfl, blk_cell (blk_up B0.out h) 3 _ rfl, blk_cell (blk_up B0.out h) 4 _ rfl, blk_cell (blk_up B1.out h) 0 _ rfl, blk_cell (blk_up B1.out h) 1 _ rfl, blk_cell (blk_up B1.out h) 2 _ rfl⟩
  have C8 : Hid (∀ W, Below w0.heap.size w0 W → Calls Tryz.prog 8 #[.agg #[.slice va vn vc, .int .i64 seq, .int .i64 next]] W fun e w' => ∃ a n c, e = .returned (.agg #[.slice a n c, .int .i64 seq, .int .i64 next]) ∧ Hid (MetsR w' (.slice a n c) ts) ∧ Hid (Below w0.heap.size w0 w')) := by
    intro W u
    refine (of_anyE ts seq next va vn vc W (HM.out.up (up_trans U0.out u)) htl).mono ?_
    rintro e w' ⟨a, n, c, rfl, hO, hb⟩
    exact ⟨a, n, c, rfl, Rws.own hO.out, up_trans u hb.out⟩
  have C10 : Hid (∀ a n c W, Below w0.heap.size w0 W → MetsR W (.slice a n c) ts → Calls Tryz.prog 10 #[.agg #[.int .i64 s.cap, .slice af nf cf, .slice an nn cn, .slice as' ns cs', .int .i64 s.next], .agg #[.slice a n c, .int .i64 seq, .int .i64 next], .int .i64 id] W fun e w' => ∃ a' n' c', e = .returned (.tuple #[.slice a' n' c', .int .i64 (begP s ts seq next id).2]) ∧ Hid (ActsW w' (.slice a' n' c') (begP s ts seq next id).1) ∧ Hid (Below w0.heap.size w0 w')) := by
    intro a n c W u hM
    refine (begin_any s _ ts seq next id a n c W (HS.out.up (up_trans U0.out u)) hM (by omega) (HE.out.up (up_trans U0.out u))).mono ?_
    rintro e w' ⟨a', n', c', rfl, hO, hb⟩
    exact ⟨a', n', c', rfl, hO.out.acts HOk.out, up_trans u hb.out⟩
  obtain ⟨x0, x1, x2, x3, x4, y0, y1, y2⟩ := HCE.out w0 (Below.refl _ _)
  have HN2 : Hid (w.heap.size ≤ w.heap.size + 1 + 1) := by unfold Hid; omega
  clear hw0 hv hm he hg sz1
  go_enter Tryz.func25, Tryz.ntmps25
  go_upto_region 1 with fail
  rw [HW0.out]
  clear HW0
  generalize hNr : w.heap.size + 1 + 1 = N2 at *
  clear hNr
  generalize begP s ts seq next id = R at *
  go_cut [8, 9] from 13 (fun vA vB wx => ∃ a' n' c', vA = .slice a' n' c' ∧ vB = .int .i64 R.2 ∧ Hid (ActsW wx (.slice a' n' c') R.1) ∧ Hid (Below w0.heap.size w0 wx))
  case first =>
    go_region_held3 (fun w' => w'.cell? ⟨w.heap.size, 0, none⟩ = some (.int .i64 s.cap) ∧ w'.cell? ⟨w.heap.size, 1, none⟩ = some (.slice af nf cf) ∧ w'.cell? ⟨w.heap.size, 2, none⟩ = some (.slice an nn cn) ∧ w'.cell? ⟨w.heap.size, 3, none⟩ = some (.slice as' ns cs') ∧ w'.cell? ⟨w.heap.size, 4, none⟩ = some (.int .i64 s.next) ∧ w'.cell? ⟨w.heap.size + 1, 0, none⟩ = some (.slice va vn vc) ∧ w'.cell? ⟨w.heap.size + 1, 1, none⟩ = some (.int .i64 seq) ∧ w'.cell? ⟨w.heap.size + 1, 2, none⟩ = some (.int .i64 next)) (first | with_reducible exact ⟨x0, x1, x2, x3, x4, y0, y1, y2⟩ | (with_reducible refine HCE.out _ ?_; first | with_reducible exact Below.refl _ _ | with_reducible exact up_dr (Below.refl _ _) | with_reducible exact u6.out | with_reducible exact u5.out)) (first
      | (go_at_call 8; with_reducible refine (C8.out _ (up_dr (Below.refl _ _))).mono ?_; rintro e w5a ⟨a5, n5, c5, rfl, M5, u5⟩)
      | (go_at_call 10; with_reducible refine (C10.out _ _ _ _ u5.out M5.out).mono ?_; rintro e w6 ⟨a6, n6, c6, rfl, R6, u6⟩))
    go_wp2_with fail
    go_meet
    case rel => exact ⟨a6, n6, c6, rfl, rfl, R6, u6⟩
  case rest =>
  obtain ⟨a6, n6, c6, rfl, rfl, R6, u6⟩ := hcut
  clear C8 C10 x0 x1 x2 x3 x4 y0 y1 y2
  have U6 : Hid (Below w.heap.size w wc) := up_trans U0.out u6.out
  obtain ⟨x0, x1, x2, x3, x4, -, -, -⟩ := HCE.out wc u6.out
  have B26 : Hid (wc.heap[N2]? = some (.cells #[.int .i64 0, .slice none 0 0, .slice none 0 0, .slice none 0 0, .int .i64 0] 35)) := blk_up B2.out u6.out
  clear HCE B0 B1 B2
  by_cases c1 : R.2 = 0
  case neg =>
    have c1b : (R.2 != 0) = true := by simpa using c1
    have HZ : Hid (begunP s ts seq next id = (s, false)) := by rw [HPd.out, if_neg c1]; rfl
    have z0 := blk_cell B26.out 0 _ rfl
    have z1 := blk_cell B26.out 1 _ rfl
    have z2 := blk_cell B26.out 2 _ rfl
    have z3 := blk_cell B26.out 3 _ rfl
    have z4 := blk_cell B26.out 4 _ rfl
    have f0 := blk_frozen B26.out 0
    have f1 := blk_frozen B26.out 1
    have f2 := blk_frozen B26.out 2
    have f3 := blk_frozen B26.out 3
    have f4 := blk_frozen B26.out 4
    clear HPd c1 R6
    go_wp2_with fail
    refine (num_any _ _).mono ?_
    rintro e w7 ⟨rfl, hw7⟩
    have hw7 := hw7.symm
    subst hw7
    go_wp2_with fail
    refine bodyPost_ret (results_state1 rfl _ _ rfl rfl (set5_blkS B26.out _ _ _ _ _)) rfl ?_
    rw [HZ.out]
    exact ⟨_, rfl, HS.out.up (up_set5 U6.out HN2.out), up_set5 U6.out HN2.out, fun h => by cases h⟩
  have HZ : Hid (begunP s ts seq next id = ((runP s R.1).1, decide ((runP s R.1).2.2 = 0))) := by rw [HPd.out, if_pos c1]; rfl
  have HRu := hid (run_any s R.1 _ _ wc (HS.out.up U6.out) R6.out (by omega) (good_after HG.out R.1))
  rw [c1]
  clear HPd c1
  generalize runP s R.1 = Q at *
  go_wp2_with fail
  refine (num_any _ _).mono ?_
  rintro e w7 ⟨rfl, hw7⟩
  have hw7 := hw7.symm
  subst hw7
  go_wp2_with fail
  refine HRu.out.mono ?_
  rintro e w8 ⟨v8, rfl, o8, b8⟩
  obtain ⟨bf, mf, df, bn, mn, dn, bs, ms, ds, ev8⟩ := o8.shape
  subst ev8
  have S8 := hid (StW.own o8)
  obtain ⟨w9, hw9⟩ : ∃ w9, w9 = w8.alloc (.cells #[.int .i64 Q.1.cap, .slice bf mf df, .slice bn mn dn, .slice bs ms ds, .int .i64 Q.1.next] 35) := ⟨_, rfl⟩
  have HW9 : Hid (w8.alloc (.cells #[.int .i64 Q.1.cap, .slice bf mf df, .slice bn mn dn, .slice bs ms ds, .int .i64 Q.1.next] 35) = w9) := hid hw9.symm
  have V9 : Hid (Below w8.heap.size w8 w9) := by rw [hw9]; exact up_alloc _ _
  have U9 : Hid (Below w.heap.size w w9) := up_trans U6.out (up_trans b8 V9.out)
  have B9 : Hid (w9.heap[w8.heap.size]? = some (.cells #[.int .i64 Q.1.cap, .slice bf mf df, .slice bn mn dn, .slice bs ms ds, .int .i64 Q.1.next] 35)) := by rw [hw9]; exact blk_new _ _
  have B29 : Hid (w9.heap[N2]? = some (.cells #[.int .i64 0, .slice none 0 0, .slice none 0 0, .slice none 0 0, .int .i64 0] 35)) := blk_up B26.out (up_trans b8 V9.out)
  have S9 : Hid (StW (((((w9.setCell ⟨N2, 0, none⟩ (.int .i64 Q.1.cap)).setCell ⟨N2, 1, none⟩ (.slice bf mf df)).setCell ⟨N2, 2, none⟩ (.slice bn mn dn)).setCell ⟨N2, 3, none⟩ (.slice bs ms ds)).setCell ⟨N2, 4, none⟩ (.int .i64 Q.1.next)) (.agg #[.int .i64 Q.1.cap, .slice bf mf df, .slice bn mn dn, .slice bs ms ds, .int .i64 Q.1.next]) Q.1) := StW.own (OwnV.put (o8.up V9.out) B29.out).2
  have O9 : Hid (OwnV (((((w9.setCell ⟨N2, 0, none⟩ (.int .i64 Q.1.cap)).setCell ⟨N2, 1, none⟩ (.slice bf mf df)).setCell ⟨N2, 2, none⟩ (.slice bn mn dn)).setCell ⟨N2, 3, none⟩ (.slice bs ms ds)).setCell ⟨N2, 4, none⟩ (.int .i64 Q.1.next)) w.heap.size (.agg #[.int .i64 Q.1.cap, .slice bf mf df, .slice bn mn dn, .slice bs ms ds, .int .i64 Q.1.next]) Q.1) := (OwnV.put (o8.up V9.out) B29.out).2.mono U6.out.size
  clear hw9 o8 b8 HRu x0 x1 x2 x3 x4
  go_upto_region 5 with fail
  rw [HW9.out]
  clear HW9
  have x0 := blk_cell B9.out 0 _ rfl
  have x1 := blk_cell B9.out 1 _ rfl
  have x2 := blk_cell B9.out 2 _ rfl
  have x3 := blk_cell B9.out 3 _ rfl
  have x4 := blk_cell B9.out 4 _ rfl
  have z0 := blk_cell B29.out 0 _ rfl
  have z1 := blk_cell B29.out 1 _ rfl
  have z2 := blk_cell B29.out 2 _ rfl
  have z3 := blk_cell B29.out 3 _ rfl
  have z4 := blk_cell B29.out 4 _ rfl
  have f0 := blk_frozen B29.out 0
  have f1 := blk_frozen B29.out 1
  have f2 := blk_frozen B29.out 2
  have f3 := blk_frozen B29.out 3
  have f4 := blk_frozen B29.out 4
  go_region_with ((go_at_call 15; refine (num_any _ _).mono ?_; rintro e w' ⟨rfl, rfl⟩))
  all_goals
    go_wp2_with fail
    refine bodyPost_ret (results_state1 rfl _ _ rfl rfl (set5_blkS B29.out _ _ _ _ _)) rfl ?_
    rw [HZ.out]
    refine ⟨_, rfl, ?_, ?_, ?_⟩
    · unfold Hid; dsimp only; first | with_reducible exact S9.out | (with_reducible refine StW.up S9.out ?_; with_reducible exact up_dr (Below.refl _ _))
    · unfold Hid; first | with_reducible exact up_set5 U9.out HN2.out | (with_reducible refine up_dr ?_; with_reducible exact up_set5 U9.out HN2.out) | with_reducible exact up_set5 (up_dr U9.out) HN2.out
    · unfold Hid; intro _; dsimp only; first | with_reducible exact O9.out | (with_reducible refine OwnV.up O9.out ?_; with_reducible exact up_dr (Below.refl _ _))
end Go.Proofs.YtnchjlimkgbfpaaGreatDoor

/- The statement's cut: acts up to one, and a crash. -/
namespace Go.Proofs.YtnchjlimkgbfpaaGreatDoor
open Go.RowKit
set_option linter.unusedVariables false
set_option linter.unusedSimpArgs false
set_option maxRecDepth 20000

/-- Which of the acts is the cut at. -/
def cutN (n : Nat) (at' : Int) : Nat := (((at'.tmod ((n : Int) + 1)) + n + 1).tmod ((n : Int) + 1)).toNat
theorem cutN_facts (n : Nat) (hn : n ≤ 64) (x : Int) : ∃ r1 r2 : Int, x.tmod ((n : Int) + 1) = r1 ∧ -((n : Int)) ≤ r1 ∧ r1 ≤ n ∧ (r1 + n + 1).tmod ((n : Int) + 1) = r2 ∧ 0 ≤ r2 ∧ r2 ≤ n ∧ r2 = (cutN n x : Nat) ∧ cutN n x ≤ n := by
  have h1 : x.tmod ((n : Int) + 1) < (n : Int) + 1 := Int.tmod_lt_of_pos x (by omega)
  have h2 : -((n : Int) + 1) < x.tmod ((n : Int) + 1) := by
    have := Int.tmod_lt_of_pos (-x) (b := (n : Int) + 1) (by omega)
    rw [Int.neg_tmod] at this
    omega
  have h3 : 0 ≤ (x.tmod ((n : Int) + 1) + n + 1).tmod ((n : Int) + 1) := Int.tmod_nonneg _ (by omega)
  have h4 : (x.tmod ((n : Int) + 1) + n + 1).tmod ((n : Int) + 1) < (n : Int) + 1 := Int.tmod_lt_of_pos _ (by omega)
  refine ⟨_, _, rfl, by omega, by omega, rfl, h3, by omega, ?_, ?_⟩
  · unfold cutN; omega
  · unfold cutN; omega
theorem cutN_all (n : Nat) : cutN n (n : Int) = n := by
  unfold cutN
  have h1 : (n : Int).tmod ((n : Int) + 1) = n := Int.tmod_eq_of_lt (by omega) (by omega)
  rw [h1]
  have h2 : ((n : Int) + n + 1) = n + ((n : Int) + 1) := by omega
  rw [h2]
  have h3 : (n + ((n : Int) + 1)).tmod ((n : Int) + 1) = n := by
    rw [Int.tmod_eq_emod_of_nonneg (by omega), Int.add_emod_right, Int.emod_eq_of_lt (by omega) (by omega)]
  rw [h3]
  omega
theorem up_set1 {w W : World} {N i : Nat} {u : Value} (h : Below w.heap.size w W) (hN : w.heap.size ≤ N) : Below w.heap.size w (W.setCell ⟨N, i, none⟩ u) :=
  h.trans (below_grown (grown_set W ⟨N, i, none⟩ u) h.size (fun k hk => by injection hk with hk; simp only at hk; omega))
/-- A state that comes back alone, through a block of any place. -/
theorem results_stateN {fn : Func} {r : Nat} (h : fn.results = #[.cell r 35]) (tmps : Array Value) (w : World) {N : Nat} {a b c d e : Value} (ht : tmps.getD r undef = .pointer (some ⟨N, 0, none⟩))
    (hc : w.heap[N]? = some (.cells #[a, b, c, d, e] 35)) : (results fn tmps).run Tryz.prog w = .ok (.agg #[a, b, c, d, e]) w := by
  have c0 := blk_cell hc 0 a rfl
  have c1 := blk_cell hc 1 b rfl
  have c2 := blk_cell hc 2 c rfl
  have c3 := blk_cell hc 3 d rfl
  have c4 := blk_cell hc 4 e rfl
  have ht' : tmps[r]?.getD undef = .pointer (some ⟨N, 0, none⟩) := by simpa using ht
  simp only [results, h]
  simp [ht', go_sem, c0, c1, c2, c3, c4]
set_option maxHeartbeats 4000000 in
theorem cut_anyL (s : St) (v : Value) (l : List Ac) (x : Int) (keep : List Int) (la : Option Addr) (ln lc : Nat) (ka : Option Addr) (kn kc : Nat) (w : World) (hg : Good s) (hv : StW w v s) (hl : ActsW w (.slice la ln lc) l) (hn : l.length ≤ 64) (hx : In64 x) (hk : IntsW w (.slice ka kn kc) keep) :
    Calls Tryz.prog 27 #[v, .slice la ln lc, .int .i64 x, .slice ka kn kc] w fun e w' => ∃ v', e = .returned v' ∧ Hid (StW w' v' (crashP (runP s (l.take (cutN l.length x))).1 keep).1) ∧ Hid (Below w.heap.size w w') := by
  obtain ⟨af, nf, cf, an, nn, cn, as', ns, cs', ev⟩ := hv.shape
  subst ev
  have HS : Hid (StW w (.agg #[.int .i64 s.cap, .slice af nf cf, .slice an nn cn, .slice as' ns cs', .int .i64 s.next]) s) := hv
  have HG : Hid (Good s) := hg
  have HK : Hid (IntsW w (.slice ka kn kc) keep) := hk
  have HL : Hid (ActsW w (.slice la ln lc) l) := hl
  obtain ⟨la', lc', el, hlc, hlm⟩ := hl.len
  injection el with el1 el2 el3
  have hlc2 : l.length ≤ lc := by omega
  obtain ⟨r1, r2, e1, b1, b1', e2, b2, b2', e3, e4⟩ := cutN_facts l.length hn x
  obtain ⟨kk, hkk⟩ : ∃ kk, kk = cutN l.length x := ⟨_, rfl⟩
  rw [← hkk] at e3 e4 ⊢
  clear hkk
  unfold In64 at hx
  obtain ⟨hx1, hx2⟩ := hx
  obtain ⟨w0, hw0⟩ : ∃ w0, w0 = (w.alloc (.cells #[.int .i64 s.cap, .slice af nf cf, .slice an nn cn, .slice as' ns cs', .int .i64 s.next] 35)).alloc (.cells #[.int .i64 0, .slice none 0 0, .slice none 0 0, .slice none 0 0, .int .i64 0] 35) := ⟨_, rfl⟩
  have HW0 : Hid ((w.alloc (.cells #[.int .i64 s.cap, .slice af nf cf, .slice an nn cn, .slice as' ns cs', .int .i64 s.next] 35)).alloc (.cells #[.int .i64 0, .slice none 0 0, .slice none 0 0, .slice none 0 0, .int .i64 0] 35) = w0) := hid hw0.symm
  have U0 : Hid (Below w.heap.size w w0) := by rw [hw0]; exact up_al (up_alloc _ _) _
  have sz1 : ∀ (W : World) (o : Obj), (W.alloc o).heap.size = W.heap.size + 1 := fun W o => by simp
  have B0 : Hid (w0.heap[w.heap.size]? = some (.cells #[.int .i64 s.cap, .slice af nf cf, .slice an nn cn, .slice as' ns cs', .int .i64 s.next] 35)) := by rw [hw0]; exact blk_up (blk_new _ _) (up_alloc _ _)
  have B2 : Hid (w0.heap[w.heap.size + 1]? = some (.cells #[.int .i64 0, .slice none 0 0, .slice none 0 0, .slice none 0 0, .int .i64 0] 35)) := by
    rw [hw0, ← sz1 w (.cells #[.int .i64 s.cap, .slice af nf cf, .slice an nn cn, .slice as' ns cs', .int .i64 s.next] 35)]
    exact blk_new _ _
  have HN2 : Hid (w.heap.size ≤ w.heap.size + 1) := Nat.le_succ _
  subst el2
  clear hw0 hv hg hk hl sz1 el1 el3
  go_enter Tryz.func27, Tryz.ntmps27
  go_upto_region 1 with fail
  rw [HW0.out]
  clear HW0
  generalize hNr : w.heap.size + 1 = N2 at *
  clear hNr
  go_upto_region 2 with fail
  obtain ⟨Q, hQ⟩ : ∃ Q, Q = (runP s (l.take kk)).1 := ⟨_, rfl⟩
  have HQg : Hid (Good Q) := by rw [hQ]; exact (run_good HG.out _).1
  have HCE : Hid (∀ W, Below w0.heap.size w0 W → W.cell? ⟨w.heap.size, 0, none⟩ = some (.int .i64 s.cap) ∧ W.cell? ⟨w.heap.size, 1, none⟩ = some (.slice af nf cf) ∧ W.cell? ⟨w.heap.size, 2, none⟩ = some (.slice an nn cn) ∧ W.cell? ⟨w.heap.size, 3, none⟩ = some (.slice as' ns cs') ∧ W.cell? ⟨w.heap.size, 4, none⟩ = some (.int .i64 s.next)) := fun W h => ⟨blk_cell (blk_up B0.out h) 0 _ rfl, blk_cell (blk_up B0.out h) 1 _ rfl, blk_cell (blk_up B0.out h) 2 _ rfl, blk_cell (blk_up B0.out h) 3 _ rfl, blk_cell (blk_up B0.out h) 4 _ rfl⟩
  have CR : Hid (∀ W, Below w0.heap.size w0 W → Calls Tryz.prog 64 #[.agg #[.int .i64 s.cap, .slice af nf cf, .slice an nn cn, .slice as' ns cs', .int .i64 s.next], .slice la kk lc] W fun e w' => ∃ bf mf df bn mn dn bs ms ds qn qe, e = .returned (.tuple #[.agg #[.int .i64 Q.cap, .slice bf mf df, .slice bn mn dn, .slice bs ms ds, .int .i64 Q.next], .int .i64 qn, .int .i64 qe]) ∧ Hid (OwnV w' w0.heap.size (.agg #[.int .i64 Q.cap, .slice bf mf df, .slice bn mn dn, .slice bs ms ds, .int .i64 Q.next]) Q) ∧ Hid (Below w0.heap.size w0 w') ∧ Hid (Below W.heap.size W w')) := by
    intro W u
    refine (run_any s (l.take kk) _ _ W (HS.out.up (up_trans U0.out u)) ((HL.out.up (up_trans U0.out u)).taken kk e4) (by have := good_len HG.out; omega) (good_after HG.out _)).mono ?_
    rintro e w' ⟨v', rfl, o, b⟩
    rw [← hQ] at o
    obtain ⟨bf, mf, df, bn, mn, dn, bs, ms, ds, ev⟩ := o.shape
    subst ev
    exact ⟨bf, mf, df, bn, mn, dn, bs, ms, ds, _, _, rfl, o.mono u.size, up_trans u b, b⟩
  obtain ⟨x0, x1, x2, x3, x4⟩ := HCE.out w0 (Below.refl _ _)
  have hkl : (kk : Int) ≤ (l.length : Int) := by omega
  have hkc : (kk : Int) ≤ (lc : Int) := by omega
  have HQq : Hid ((runP s (l.take kk)).1 = Q) := hQ.symm
  clear hQ
  go_cut [9] from 14 (fun vA wx => ∃ N9 bf mf df bn mn dn bs ms ds, vA = .pointer (some ⟨N9, 0, none⟩) ∧ Hid (wx.heap[N9]? = some (.cells #[.int .i64 Q.cap, .slice bf mf df, .slice bn mn dn, .slice bs ms ds, .int .i64 Q.next] 35)) ∧ Hid (StW wx (.agg #[.int .i64 Q.cap, .slice bf mf df, .slice bn mn dn, .slice bs ms ds, .int .i64 Q.next]) Q) ∧ Hid (Below w0.heap.size w0 wx))
  case first =>
    go_region_held3 (fun w' => w'.cell? ⟨w.heap.size, 0, none⟩ = some (.int .i64 s.cap) ∧ w'.cell? ⟨w.heap.size, 1, none⟩ = some (.slice af nf cf) ∧ w'.cell? ⟨w.heap.size, 2, none⟩ = some (.slice an nn cn) ∧ w'.cell? ⟨w.heap.size, 3, none⟩ = some (.slice as' ns cs') ∧ w'.cell? ⟨w.heap.size, 4, none⟩ = some (.int .i64 s.next)) (first | with_reducible exact ⟨x0, x1, x2, x3, x4⟩ | (with_reducible refine HCE.out _ ?_; (repeat (first | with_reducible exact u6.out | with_reducible exact Below.refl _ _ | with_reducible refine up_dr ?_ | with_reducible refine up_al ?_ _ | with_reducible refine up_set1 ?_ ?_ | exact Nat.le_refl _ | exact u6.out.size)); done)) (first
      | (go_at_call 64; with_reducible refine (CR.out _ (up_dr (Below.refl _ _))).mono ?_; rintro e w6 ⟨bf, mf, df, bn, mn, dn, bs, ms, ds, qn, qe, rfl, O6, u6, v6⟩)
      | (go_at_call 64; with_reducible refine (CR.out _ (up_dr (up_alloc w0 (.cells #[.int .i64 0, .slice none 0 0, .slice none 0 0, .slice none 0 0, .int .i64 0] 35)))).mono ?_; rintro e w6 ⟨bf, mf, df, bn, mn, dn, bs, ms, ds, qn, qe, rfl, O6, u6, v6⟩; have KZ := hid (blk_up (w := (w0.alloc (.cells #[.int .i64 0, .slice none 0 0, .slice none 0 0, .slice none 0 0, .int .i64 0] 35)).drew) (blk_new w0 (.cells #[.int .i64 0, .slice none 0 0, .slice none 0 0, .slice none 0 0, .int .i64 0] 35)) v6.out); have z0 := blk_cell KZ.out 0 _ rfl; have z1 := blk_cell KZ.out 1 _ rfl; have z2 := blk_cell KZ.out 2 _ rfl; have z3 := blk_cell KZ.out 3 _ rfl; have z4 := blk_cell KZ.out 4 _ rfl; have f0 := blk_frozen KZ.out 0; have f1 := blk_frozen KZ.out 1; have f2 := blk_frozen KZ.out 2; have f3 := blk_frozen KZ.out 3; have f4 := blk_frozen KZ.out 4))
    all_goals go_wp2_with fail
    all_goals go_meet
    all_goals (case rel =>
      refine ⟨_, bf, mf, df, bn, mn, dn, bs, ms, ds, rfl, ?_, ?_, ?_⟩
      · unfold Hid; first | with_reducible exact blk_new _ _ | with_reducible exact set5_blkS KZ.out _ _ _ _ _
      · unfold Hid; first | with_reducible exact (StW.own O6.out).up (up_alloc _ _) | exact StW.own (OwnV.put O6.out KZ.out).2
      · unfold Hid; first | with_reducible exact up_al u6.out _ | with_reducible exact up_set5 u6.out (Nat.le_refl _))
  case rest =>
  obtain ⟨N9, bf, mf, df, bn, mn, dn, bs, ms, ds, rfl, B9, S9, u9⟩ := hcut
  clear CR HCE x0 x1 x2 x3 x4
  have U9 : Hid (Below w.heap.size w wc) := up_trans U0.out u9.out
  have B29 : Hid (wc.heap[N2]? = some (.cells #[.int .i64 0, .slice none 0 0, .slice none 0 0, .slice none 0 0, .int .i64 0] 35)) := blk_up B2.out u9.out
  have HC := hid (crash_any Q keep _ (.slice ka kn kc) wc S9.out (HK.out.up U9.out) (by have := good_len HQg.out; omega))
  have HF : Hid ((crashP (runP s (l.take kk)).1 keep).1 = (crashP Q keep).1) := by rw [HQq.out]; rfl
  generalize crashP Q keep = C at *
  have x0 := blk_cell B9.out 0 _ rfl
  have x1 := blk_cell B9.out 1 _ rfl
  have x2 := blk_cell B9.out 2 _ rfl
  have x3 := blk_cell B9.out 3 _ rfl
  have x4 := blk_cell B9.out 4 _ rfl
  go_wp2_with fail
  refine HC.out.mono ?_
  rintro e w7 ⟨v7, rfl, o7, b7⟩
  obtain ⟨ef, pf, gf, en, pn, gn, es, ps, gs, ev7⟩ := o7.shape
  subst ev7
  obtain ⟨w8, hw8⟩ : ∃ w8, w8 = w7.alloc (.cells #[.int .i64 C.1.cap, .slice ef pf gf, .slice en pn gn, .slice es ps gs, .int .i64 C.1.next] 35) := ⟨_, rfl⟩
  have HW8 : Hid (w7.alloc (.cells #[.int .i64 C.1.cap, .slice ef pf gf, .slice en pn gn, .slice es ps gs, .int .i64 C.1.next] 35) = w8) := hid hw8.symm
  have V8 : Hid (Below w7.heap.size w7 w8) := by rw [hw8]; exact up_alloc _ _
  have U8 : Hid (Below w.heap.size w w8) := up_trans U9.out (up_trans b7 V8.out)
  have B8 : Hid (w8.heap[w7.heap.size]? = some (.cells #[.int .i64 C.1.cap, .slice ef pf gf, .slice en pn gn, .slice es ps gs, .int .i64 C.1.next] 35)) := by rw [hw8]; exact blk_new _ _
  have B28 : Hid (w8.heap[N2]? = some (.cells #[.int .i64 0, .slice none 0 0, .slice none 0 0, .slice none 0 0, .int .i64 0] 35)) := blk_up B29.out (up_trans b7 V8.out)
  have S8 : Hid (StW (((((w8.setCell ⟨N2, 0, none⟩ (.int .i64 C.1.cap)).setCell ⟨N2, 1, none⟩ (.slice ef pf gf)).setCell ⟨N2, 2, none⟩ (.slice en pn gn)).setCell ⟨N2, 3, none⟩ (.slice es ps gs)).setCell ⟨N2, 4, none⟩ (.int .i64 C.1.next)) (.agg #[.int .i64 C.1.cap, .slice ef pf gf, .slice en pn gn, .slice es ps gs, .int .i64 C.1.next]) C.1) := StW.own (OwnV.put (o7.up V8.out) B28.out).2
  clear hw8 o7 b7 HC x0 x1 x2 x3 x4
  go_upto_region 4 with fail
  rw [HW8.out]
  clear HW8
  have x0 := blk_cell B8.out 0 _ rfl
  have x1 := blk_cell B8.out 1 _ rfl
  have x2 := blk_cell B8.out 2 _ rfl
  have x3 := blk_cell B8.out 3 _ rfl
  have x4 := blk_cell B8.out 4 _ rfl
  have z0 := blk_cell B28.out 0 _ rfl
  have z1 := blk_cell B28.out 1 _ rfl
  have z2 := blk_cell B28.out 2 _ rfl
  have z3 := blk_cell B28.out 3 _ rfl
  have z4 := blk_cell B28.out 4 _ rfl
  have f0 := blk_frozen B28.out 0
  have f1 := blk_frozen B28.out 1
  have f2 := blk_frozen B28.out 2
  have f3 := blk_frozen B28.out 3
  have f4 := blk_frozen B28.out 4
  go_wp2_with fail
  refine bodyPost_ret (results_stateN rfl _ _ rfl (set5_blkS B28.out _ _ _ _ _)) rfl ?_
  rw [HF.out]
  exact ⟨_, rfl, S8, up_set5 U8.out HN2.out⟩
end Go.Proofs.YtnchjlimkgbfpaaGreatDoor

/- Switches: what the two Begins answer, plainly. -/
namespace Go.Proofs.YtnchjlimkgbfpaaGreatDoor
open Go.RowKit
set_option linter.unusedVariables false
set_option linter.unusedSimpArgs false
set_option maxRecDepth 20000

theorem begL_none {s : St} {M F P : List Int} (h1 : M ∉ s.names.map (·.1)) (h2 : nxtL ∉ s.names.map (·.1)) : begL s M F P = begA M F P := by
  unfold begL
  rw [decide_eq_false h1, decide_eq_false h2]
  rfl
theorem enc_sizes {ts : List Me} {sq nx id : Int} (h : errV ts sq nx = 0) (hi : 1 ≤ id ∧ id ≤ 2147483647) : ((edF sq nx [] ts).length : Int) + ((ptrF id).length : Int) ≤ 1048576 := by
  have q1 := edF_len (whole_enc (errV_zero.1 h)).2
  have q2 := ptr_len hi
  omega
theorem begun_d0 (ts : List Me) (sq nx : Int) : begunP d0 ts sq nx 1 = if errV ts sq nx = 0 then (d1 [109, 49] (edF sq nx [] ts) (ptrF 1), true) else (d0, false) := by
  by_cases h : errV ts sq nx = 0
  · have hb : begP d0 ts sq nx 1 = (begA [109, 49] (edF sq nx [] ts) (ptrF 1), 0) := by
      unfold begP
      rw [check_d0, if_pos rfl, if_pos h, if_pos (by decide), name_m1, begL_none (by simp [d0]) (by simp [d0])]
    unfold begunP
    rw [hb, if_pos rfl, if_pos h]
    dsimp only
    rw [run_d0 (by decide) (by decide) (by decide) (by decide) (by decide) (enc_sizes h (by omega))]
    rfl
  · have hb : begP d0 ts sq nx 1 = ([], 9) := by
      unfold begP
      rw [check_d0, if_pos rfl, if_neg h]
    unfold begunP
    rw [hb, if_neg (by decide), if_neg h]
theorem good_m1 {ts : List Me} {sq nx : Int} (h : errV ts sq nx = 0) : Good (d1 [109, 49] (edF sq nx [] ts) (ptrF 1)) :=
  good_d1 (by decide) (by decide) (by decide) (by decide) (by decide) (enc_sizes h (by omega))
theorem begP_d1 {ts ts2 : List Me} {sq nx sq2 nx2 : Int} (h : errV ts sq nx = 0) : begP (d1 [109, 49] (edF sq nx [] ts) (ptrF 1)) ts2 sq2 nx2 2 = if errV ts2 sq2 nx2 = 0 then (begA [109, 50] (edF sq2 nx2 [] ts2) (ptrF 2), 0) else ([], 9) := by
  unfold begP
  rw [good_check (good_m1 h), if_pos rfl]
  by_cases h2 : errV ts2 sq2 nx2 = 0
  · rw [if_pos h2, if_pos h2, if_pos (by decide), name_m2, begL_none (by simp only [d1]; decide) (by simp only [d1]; decide)]
  · rw [if_neg h2, if_neg h2]
theorem swi_any {ts ts2 : List Me} {sq nx sq2 nx2 : Int} (ha : errV ts sq nx = 0) (hb : errV ts2 sq2 nx2 = 0) (keep : List Int) (j : Nat) (hj : j ≤ 9) :
    loadP (crashP (runP (d1 [109, 49] (edF sq nx [] ts) (ptrF 1)) ((begA [109, 50] (edF sq2 nx2 [] ts2) (ptrF 2)).take j)).1 keep).1 = ((ts, sq, nx), 1, 0) ∨ loadP (crashP (runP (d1 [109, 49] (edF sq nx [] ts) (ptrF 1)) ((begA [109, 50] (edF sq2 nx2 [] ts2) (ptrF 2)).take j)).1 keep).1 = ((ts2, sq2, nx2), 2, 0) := by
  by_cases q : j ≤ 8
  · exact .inl (switch_old (errV_zero.1 ha) (errV_zero.1 hb) keep j q)
  · obtain rfl : j = 9 := by omega
    right
    have := switch_new (errV_zero.1 ha) (errV_zero.1 hb) keep
    rw [show (begA [109, 50] (edF sq2 nx2 [] ts2) (ptrF 2)).take 9 = begA [109, 50] (edF sq2 nx2 [] ts2) (ptrF 2) from rfl]
    exact this
theorem new_d0 : newP 1048576 = (d0, 0) := by rfl
/-- Not too many names, after a crash. -/
theorem cut_names {s : St} (h : Good s) (l : List Ac) (keep : List Int) : (crashP (runP s l).1 keep).1.names.length + (crashP (runP s l).1 keep).1.safe.length ≤ 9223372036854775807 := by
  have := good_len (crash_good (run_good h l).1 keep)
  omega
end Go.Proofs.YtnchjlimkgbfpaaGreatDoor

/- Octets spoiled; what lies in another block is as it was. -/
namespace Go.Proofs.YtnchjlimkgbfpaaGreatDoor
open Go.RowKit SumPlain
set_option linter.unusedVariables false
set_option maxRecDepth 20000

/-- What lies in another block is as it was. -/
theorem Octs.far {w w' : World} {v : Value} {l : List Int} {r : Option Nat} (h : Octs w v l) (hg : w.grownBy w' r) (hne : ∀ b, v.ownBlock = some b → l ≠ [] → some b ≠ r) : Octs w' v l :=
  h.moved fun b off x hn hv hc => hg.cell hc (hne b hv hn)

theorem Octs.lt {w : World} {v : Value} {l : List Int} (h : Octs w v l) (b : Nat) (hb : v.ownBlock = some b) (hn : l ≠ []) : b < w.heap.size := by
  obtain ⟨_, h⟩ := h
  rcases h with ⟨h0, _⟩ | ⟨_, b', off, cap, rfl, _, _, hj⟩
  · exact absurd h0 hn
  · simp [Value.ownBlock] at hb
    subst hb
    cases l with
    | nil => exact absurd rfl hn
    | cons x r => exact World.block_lt_of_cell? w ⟨b', off + 0, none⟩ (hj 0 x rfl)

end Go.Proofs.YtnchjlimkgbfpaaGreatDoor
