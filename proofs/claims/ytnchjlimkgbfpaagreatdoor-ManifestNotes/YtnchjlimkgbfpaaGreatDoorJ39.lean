/- The texts OCut, OSwm, ONot, ONtm, OAlk, FOct, in this order. -/
import Derived.Test.YtnchjlimkgbfpaaGreatDoorJ38
import Derived.Test.YtnchjlimkgbfpaaGreatDoorJ18
import Derived.Test.YtnchjlimkgbfpaaGreatDoorJ35
import Derived.Test.YtnchjlimkgbfpaaGreatDoorJ37
import Derived.Test.YtnchjlimkgbfpaaGreatDoorJ26

namespace Go.Proofs.YtnchjlimkgbfpaaGreatDoor
open Go.RowKit
set_option linter.unusedVariables false
set_option linter.unusedSimpArgs false
set_option maxRecDepth 20000
def cutN (n : Nat) (at' : Int) : Nat := (((at'.tmod ((n : Int) + 1)) + n + 1).tmod ((n : Int) + 1)).toNat
theorem cutN_facts (n : Nat) (hn : n ≤ 64) (x : Int) : ∃ r1 r2 : Int, x.tmod ((n : Int) + 1) = r1 ∧ -((n : Int)) ≤ r1 ∧ r1 ≤ n ∧ (r1 + n + 1).tmod ((n : Int) + 1) = r2 ∧ 0 ≤ r2 ∧ r2 ≤ n ∧ r2 = (cutN n x : Nat) ∧ cutN n x ≤ n := by
  have h1 : x.tmod ((n : Int) + 1) < (n : Int) + 1 := Int.tmod_lt_of_pos x (by omega)
  have h2 : -((n : Int) + 1) < x.tmod ((n : Int) + 1) := by
    have := Int.tmod_lt_of_pos (-x) (b := (n : Int) + 1) (by omega)
    rw [Int.neg_tmod] at this
    omega
  have h3 : 0 ≤ (x.tmod ((n : Int) + 1) + n + 1).tmod ((n : Int) + 1) := Int.tmod_nonneg _ (by omega)
  have h4 : (x.tmod ((n : Int) + 1) + n + 1).tmod ((n : Int) + 1) < (n : Int) + 1 := Int.tmod_lt_of_pos _ (by omega)
  refine ⟨_, _, rfl, by omega, by omega, rfl, h3, by omega, ?_, ?_⟩
  · unfold cutN; omega
  · unfold cutN; omega
theorem cutN_all (n : Nat) : cutN n (n : Int) = n := by
  unfold cutN
  have h1 : (n : Int).tmod ((n : Int) + 1) = n := Int.tmod_eq_of_lt (by omega) (by omega)
  rw [h1]
  have h2 : ((n : Int) + n + 1) = n + ((n : Int) + 1) := by omega
  rw [h2]
  have h3 : (n + ((n : Int) + 1)).tmod ((n : Int) + 1) = n := by
    rw [Int.tmod_eq_emod_of_nonneg (by omega), Int.add_emod_right, Int.emod_eq_of_lt (by omega) (by omega)]
  rw [h3]
  omega
theorem up_set1 {w W : World} {N i : Nat} {u : Value} (h : Below w.heap.size w W) (hN : w.heap.size ≤ N) : Below w.heap.size w (W.setCell ⟨N, i, none⟩ u) :=
  h.trans (below_grown (grown_set W ⟨N, i, none⟩ u) h.size (fun k hk => by injection hk with hk; simp only at hk; omega))
theorem results_stateN {fn : Func} {r : Nat} (h : fn.results = #[.cell r 35]) (tmps : Array Value) (w : World) {N : Nat} {a b c d e : Value} (ht : tmps.getD r undef = .pointer (some ⟨N, 0, none⟩))
    (hc : w.heap[N]? = some (.cells #[a, b, c, d, e] 35)) : (results fn tmps).run Tryz.prog w = .ok (.agg #[a, b, c, d, e]) w := by
  have c0 := blk_cell hc 0 a rfl
  have c1 := blk_cell hc 1 b rfl
  have c2 := blk_cell hc 2 c rfl
  have c3 := blk_cell hc 3 d rfl
  have c4 := blk_cell hc 4 e rfl
  have ht' : tmps[r]?.getD undef = .pointer (some ⟨N, 0, none⟩) := by simpa using ht
  simp only [results, h]
  simp [ht', go_sem, c0, c1, c2, c3, c4]
set_option maxHeartbeats 4000000 in
theorem cut_anyL (s : St) (v : Value) (l : List Ac) (x : Int) (keep : List Int) (la : Option Addr) (ln lc : Nat) (ka : Option Addr) (kn kc : Nat) (w : World) (hg : Good s) (hv : StW w v s) (hl : ActsW w (.slice la ln lc) l) (hn : l.length ≤ 64) (hx : In64 x) (hk : IntsW w (.slice ka kn kc) keep) :
    Calls Tryz.prog 27 #[v, .slice la ln lc, .int .i64 x, .slice ka kn kc] w fun e w' => ∃ v', e = .returned v' ∧ Hid (StW w' v' (crashP (runP s (l.take (cutN l.length x))).1 keep).1) ∧ Hid (Below w.heap.size w w') := by
  obtain ⟨af, nf, cf, an, nn, cn, as', ns, cs', ev⟩ := hv.shape
  subst ev
  have HS : Hid (StW w (.agg #[.int .i64 s.cap, .slice af nf cf, .slice an nn cn, .slice as' ns cs', .int .i64 s.next]) s) := hv
  have HG : Hid (Good s) := hg
  have HK : Hid (IntsW w (.slice ka kn kc) keep) := hk
  have HL : Hid (ActsW w (.slice la ln lc) l) := hl
  obtain ⟨la', lc', el, hlc, hlm⟩ := hl.len
  injection el with el1 el2 el3
  have hlc2 : l.length ≤ lc := by omega
  obtain ⟨r1, r2, e1, b1, b1', e2, b2, b2', e3, e4⟩ := cutN_facts l.length hn x
  obtain ⟨kk, hkk⟩ : ∃ kk, kk = cutN l.length x := ⟨_, rfl⟩
  rw [← hkk] at e3 e4 ⊢
  clear hkk
  unfold In64 at hx
  obtain ⟨hx1, hx2⟩ := hx
  obtain ⟨w0, hw0⟩ : ∃ w0, w0 = (w.alloc (.cells #[.int .i64 s.cap, .slice af nf cf, .slice an nn cn, .slice as' ns cs', .int .i64 s.next] 35)).alloc (.cells #[.int .i64 0, .slice none 0 0, .slice none 0 0, .slice none 0 0, .int .i64 0] 35) := ⟨_, rfl⟩
  have HW0 : Hid ((w.alloc (.cells #[.int .i64 s.cap, .slice af nf cf, .slice an nn cn, .slice as' ns cs', .int .i64 s.next] 35)).alloc (.cells #[.int .i64 0, .slice none 0 0, .slice none 0 0, .slice none 0 0, .int .i64 0] 35) = w0) := hid hw0.symm
  have U0 : Hid (Below w.heap.size w w0) := by rw [hw0]; exact up_al (up_alloc _ _) _
  have sz1 : ∀ (W : World) (o : Obj), (W.alloc o).heap.size = W.heap.size + 1 := fun W o => by simp
  have B0 : Hid (w0.heap[w.heap.size]? = some (.cells #[.int .i64 s.cap, .slice af nf cf, .slice an nn cn, .slice as' ns cs', .int .i64 s.next] 35)) := by rw [hw0]; exact blk_up (blk_new _ _) (up_alloc _ _)
  have B2 : Hid (w0.heap[w.heap.size + 1]? = some (.cells #[.int .i64 0, .slice none 0 0, .slice none 0 0, .slice none 0 0, .int .i64 0] 35)) := by
    rw [hw0, ← sz1 w (.cells #[.int .i64 s.cap, .slice af nf cf, .slice an nn cn, .slice as' ns cs', .int .i64 s.next] 35)]
    exact blk_new _ _
  have HN2 : Hid (w.heap.size ≤ w.heap.size + 1) := Nat.le_succ _
  subst el2
  clear hw0 hv hg hk hl sz1 el1 el3
  go_enter Tryz.func27, Tryz.ntmps27
  go_upto_region 1 with fail
  rw [HW0.out]
  clear HW0
  generalize hNr : w.heap.size + 1 = N2 at *
  clear hNr
  go_upto_region 2 with fail
  obtain ⟨Q, hQ⟩ : ∃ Q, Q = (runP s (l.take kk)).1 := ⟨_, rfl⟩
  have HQg : Hid (Good Q) := by rw [hQ]; exact (run_good HG.out _).1
  have HCE : Hid (∀ W, Below w0.heap.size w0 W → W.cell? ⟨w.heap.size, 0, none⟩ = some (.int .i64 s.cap) ∧ W.cell? ⟨w.heap.size, 1, none⟩ = some (.slice af nf cf) ∧ W.cell? ⟨w.heap.size, 2, none⟩ = some (.slice an nn cn) ∧ W.cell? ⟨w.heap.size, 3, none⟩ = some (.slice as' ns cs') ∧ W.cell? ⟨w.heap.size, 4, none⟩ = some (.int .i64 s.next)) := fun W h => ⟨blk_cell (blk_up B0.out h) 0 _ rfl, blk_cell (blk_up B0.out h) 1 _ rfl, blk_cell (blk_up B0.out h) 2 _ rfl, blk_cell (blk_up B0.out h) 3 _ rfl, blk_cell (blk_up B0.out h) 4 _ rfl⟩
  have CR : Hid (∀ W, Below w0.heap.size w0 W → Calls Tryz.prog 64 #[.agg #[.int .i64 s.cap, .slice af nf cf, .slice an nn cn, .slice as' ns cs', .int .i64 s.next], .slice la kk lc] W fun e w' => ∃ bf mf df bn mn dn bs ms ds qn qe, e = .returned (.tuple #[.agg #[.int .i64 Q.cap, .slice bf mf df, .slice bn mn dn, .slice bs ms ds, .int .i64 Q.next], .int .i64 qn, .int .i64 qe]) ∧ Hid (OwnV w' w0.heap.size (.agg #[.int .i64 Q.cap, .slice bf mf df, .slice bn mn dn, .slice bs ms ds, .int .i64 Q.next]) Q) ∧ Hid (Below w0.heap.size w0 w') ∧ Hid (Below W.heap.size W w')) := by
    intro W u
    refine (run_any s (l.take kk) _ _ W (HS.out.up (up_trans U0.out u)) ((HL.out.up (up_trans U0.out u)).taken kk e4) (by have := good_len HG.out; omega) (good_after HG.out _)).mono ?_
    rintro e w' ⟨v', rfl, o, b⟩
    rw [← hQ] at o
    obtain ⟨bf, mf, df, bn, mn, dn, bs, ms, ds, ev⟩ := o.shape
    subst ev
    exact ⟨bf, mf, df, bn, mn, dn, bs, ms, ds, _, _, rfl, o.mono u.size, up_trans u b, b⟩
  obtain ⟨x0, x1, x2, x3, x4⟩ := HCE.out w0 (Below.refl _ _)
  have hkl : (kk : Int) ≤ (l.length : Int) := by omega
  have hkc : (kk : Int) ≤ (lc : Int) := by omega
  have HQq : Hid ((runP s (l.take kk)).1 = Q) := hQ.symm
  clear hQ
  go_cut [9] from 14 (fun vA wx => ∃ N9 bf mf df bn mn dn bs ms ds, vA = .pointer (some ⟨N9, 0, none⟩) ∧ Hid (wx.heap[N9]? = some (.cells #[.int .i64 Q.cap, .slice bf mf df, .slice bn mn dn, .slice bs ms ds, .int .i64 Q.next] 35)) ∧ Hid (StW wx (.agg #[.int .i64 Q.cap, .slice bf mf df, .slice bn mn dn, .slice bs ms ds, .int .i64 Q.next]) Q) ∧ Hid (Below w0.heap.size w0 wx))
  case first =>
    go_region_held3 (fun w' => w'.cell? ⟨w.heap.size, 0, none⟩ = some (.int .i64 s.cap) ∧ w'.cell? ⟨w.heap.size, 1, none⟩ = some (.slice af nf cf) ∧ w'.cell? ⟨w.heap.size, 2, none⟩ = some (.slice an nn cn) ∧ w'.cell? ⟨w.heap.size, 3, none⟩ = some (.slice as' ns cs') ∧ w'.cell? ⟨w.heap.size, 4, none⟩ = some (.int .i64 s.next)) (first | with_reducible exact ⟨x0, x1, x2, x3, x4⟩ | (with_reducible refine HCE.out _ ?_; (repeat (first | with_reducible exact u6.out | with_reducible exact Below.refl _ _ | with_reducible refine up_dr ?_ | with_reducible refine up_al ?_ _ | with_reducible refine up_set1 ?_ ?_ | exact Nat.le_refl _ | exact u6.out.size)); done)) (first
      | (go_at_call 64; with_reducible refine (CR.out _ (up_dr (Below.refl _ _))).mono ?_; rintro e w6 ⟨bf, mf, df, bn, mn, dn, bs, ms, ds, qn, qe, rfl, O6, u6, v6⟩)
      | (go_at_call 64; with_reducible refine (CR.out _ (up_dr (up_alloc w0 (.cells #[.int .i64 0, .slice none 0 0, .slice none 0 0, .slice none 0 0, .int .i64 0] 35)))).mono ?_; rintro e w6 ⟨bf, mf, df, bn, mn, dn, bs, ms, ds, qn, qe, rfl, O6, u6, v6⟩; have KZ := hid (blk_up (w := (w0.alloc (.cells #[.int .i64 0, .slice none 0 0, .slice none 0 0, .slice none 0 0, .int .i64 0] 35)).drew) (blk_new w0 (.cells #[.int .i64 0, .slice none 0 0, .slice none 0 0, .slice none 0 0, .int .i64 0] 35)) v6.out); have z0 := blk_cell KZ.out 0 _ rfl; have z1 := blk_cell KZ.out 1 _ rfl; have z2 := blk_cell KZ.out 2 _ rfl; have z3 := blk_cell KZ.out 3 _ rfl; have z4 := blk_cell KZ.out 4 _ rfl; have f0 := blk_frozen KZ.out 0; have f1 := blk_frozen KZ.out 1; have f2 := blk_frozen KZ.out 2; have f3 := blk_frozen KZ.out 3; have f4 := blk_frozen KZ.out 4))
    all_goals go_wp2_with fail
    all_goals go_meet
    all_goals (case rel =>
      refine ⟨_, bf, mf, df, bn, mn, dn, bs, ms, ds, rfl, ?_, ?_, ?_⟩
      · unfold Hid; first | with_reducible exact blk_new _ _ | with_reducible exact set5_blkS KZ.out _ _ _ _ _
      · unfold Hid; first | with_reducible exact (StW.own O6.out).up (up_alloc _ _) | exact StW.own (OwnV.put O6.out KZ.out).2
      · unfold Hid; first | with_reducible exact up_al u6.out _ | with_reducible exact up_set5 u6.out (Nat.le_refl _))
  case rest =>
  obtain ⟨N9, bf, mf, df, bn, mn, dn, bs, ms, ds, rfl, B9, S9, u9⟩ := hcut
  clear CR HCE x0 x1 x2 x3 x4
  have U9 : Hid (Below w.heap.size w wc) := up_trans U0.out u9.out
  have B29 : Hid (wc.heap[N2]? = some (.cells #[.int .i64 0, .slice none 0 0, .slice none 0 0, .slice none 0 0, .int .i64 0] 35)) := blk_up B2.out u9.out
  have HC := hid (crash_any Q keep _ (.slice ka kn kc) wc S9.out (HK.out.up U9.out) (by have := good_len HQg.out; omega))
  have HF : Hid ((crashP (runP s (l.take kk)).1 keep).1 = (crashP Q keep).1) := by rw [HQq.out]; rfl
  generalize crashP Q keep = C at *
  have x0 := blk_cell B9.out 0 _ rfl
  have x1 := blk_cell B9.out 1 _ rfl
  have x2 := blk_cell B9.out 2 _ rfl
  have x3 := blk_cell B9.out 3 _ rfl
  have x4 := blk_cell B9.out 4 _ rfl
  go_wp2_with fail
  refine HC.out.mono ?_
  rintro e w7 ⟨v7, rfl, o7, b7⟩
  obtain ⟨ef, pf, gf, en, pn, gn, es, ps, gs, ev7⟩ := o7.shape
  subst ev7
  obtain ⟨w8, hw8⟩ : ∃ w8, w8 = w7.alloc (.cells #[.int .i64 C.1.cap, .slice ef pf gf, .slice en pn gn, .slice es ps gs, .int .i64 C.1.next] 35) := ⟨_, rfl⟩
  have HW8 : Hid (w7.alloc (.cells #[.int .i64 C.1.cap, .slice ef pf gf, .slice en pn gn, .slice es ps gs, .int .i64 C.1.next] 35) = w8) := hid hw8.symm
  have V8 : Hid (Below w7.heap.size w7 w8) := by rw [hw8]; exact up_alloc _ _
  have U8 : Hid (Below w.heap.size w w8) := up_trans U9.out (up_trans b7 V8.out)
  have B8 : Hid (w8.heap[w7.heap.size]? = some (.cells #[.int .i64 C.1.cap, .slice ef pf gf, .slice en pn gn, .slice es ps gs, .int .i64 C.1.next] 35)) := by rw [hw8]; exact blk_new _ _
  have B28 : Hid (w8.heap[N2]? = some (.cells #[.int .i64 0, .slice none 0 0, .slice none 0 0, .slice none 0 0, .int .i64 0] 35)) := blk_up B29.out (up_trans b7 V8.out)
  have S8 : Hid (StW (((((w8.setCell ⟨N2, 0, none⟩ (.int .i64 C.1.cap)).setCell ⟨N2, 1, none⟩ (.slice ef pf gf)).setCell ⟨N2, 2, none⟩ (.slice en pn gn)).setCell ⟨N2, 3, none⟩ (.slice es ps gs)).setCell ⟨N2, 4, none⟩ (.int .i64 C.1.next)) (.agg #[.int .i64 C.1.cap, .slice ef pf gf, .slice en pn gn, .slice es ps gs, .int .i64 C.1.next]) C.1) := StW.own (OwnV.put (o7.up V8.out) B28.out).2
  clear hw8 o7 b7 HC x0 x1 x2 x3 x4
  go_upto_region 4 with fail
  rw [HW8.out]
  clear HW8
  have x0 := blk_cell B8.out 0 _ rfl
  have x1 := blk_cell B8.out 1 _ rfl
  have x2 := blk_cell B8.out 2 _ rfl
  have x3 := blk_cell B8.out 3 _ rfl
  have x4 := blk_cell B8.out 4 _ rfl
  have z0 := blk_cell B28.out 0 _ rfl
  have z1 := blk_cell B28.out 1 _ rfl
  have z2 := blk_cell B28.out 2 _ rfl
  have z3 := blk_cell B28.out 3 _ rfl
  have z4 := blk_cell B28.out 4 _ rfl
  have f0 := blk_frozen B28.out 0
  have f1 := blk_frozen B28.out 1
  have f2 := blk_frozen B28.out 2
  have f3 := blk_frozen B28.out 3
  have f4 := blk_frozen B28.out 4
  go_wp2_with fail
  refine bodyPost_ret (results_stateN rfl _ _ rfl (set5_blkS B28.out _ _ _ _ _)) rfl ?_
  rw [HF.out]
  exact ⟨_, rfl, S8, up_set5 U8.out HN2.out⟩
end Go.Proofs.YtnchjlimkgbfpaaGreatDoor

namespace Go.Proofs.YtnchjlimkgbfpaaGreatDoor
open Go.RowKit
set_option linter.unusedVariables false
set_option linter.unusedSimpArgs false
set_option maxRecDepth 20000
theorem begL_none {s : St} {M F P : List Int} (h1 : M ∉ s.names.map (·.1)) (h2 : nxtL ∉ s.names.map (·.1)) : begL s M F P = begA M F P := by
  unfold begL
  rw [decide_eq_false h1, decide_eq_false h2]
  rfl
theorem enc_sizes {ts : List Me} {sq nx id : Int} (h : errV ts sq nx = 0) (hi : 1 ≤ id ∧ id ≤ 2147483647) : ((edF sq nx [] ts).length : Int) + ((ptrF id).length : Int) ≤ 1048576 := by
  have q1 := edF_len (whole_enc (errV_zero.1 h)).2
  have q2 := ptr_len hi
  omega
theorem new_d0 : newP 1048576 = (d0, 0) := by rfl
theorem cut_names {s : St} (h : Good s) (l : List Ac) (keep : List Int) : (crashP (runP s l).1 keep).1.names.length + (crashP (runP s l).1 keep).1.safe.length ≤ 9223372036854775807 := by
  have := good_len (crash_good (run_good h l).1 keep)
  omega
end Go.Proofs.YtnchjlimkgbfpaaGreatDoor

namespace Go.Proofs.YtnchjlimkgbfpaaGreatDoor
open Go.RowKit
set_option linter.unusedVariables false
set_option linter.unusedSimpArgs false
set_option maxRecDepth 20000
theorem note_ok {D : List Int} (h : D.length ≤ 140737488355328) : okAc ⟨2, [109, 55], [], D⟩ ∧ okAc ⟨3, [109, 55], [], []⟩ := by
  unfold okAc In64 OctL
  refine ⟨⟨by simp, ?_, by simp, by simp, by simp, h⟩, by simp, ?_, by simp, by simp, by simp, by simp⟩ <;> (intro y hy; simp at hy; omega)
set_option maxHeartbeats 2000000 in
theorem note_any (seq next : Int) (drop : List Int) (adds : List Me) (da aa : Option Addr) (dn dc an ac : Nat) (w : World) (hd : IntsR w (.slice da dn dc) drop) (ha : MetsR w (.slice aa an ac) adds) (henc : (encE seq next drop adds).2 = 0) (hlen : (edF seq next drop adds).length ≤ 140737488355328) (he : EnvL w) :
    Calls Tryz.prog 12 #[.int .i64 7, .agg #[.slice da dn dc, .slice aa an ac, .int .i64 seq, .int .i64 next]] w fun e w' => ∃ a c, e = .returned (.tuple #[.slice a 2 c, .int .i64 0]) ∧ Hid (ActsW w' (.slice a 2 c) (noteA [109, 55] (edF seq next drop adds))) ∧ Hid (Below w.heap.size w w') := by
  have HD : Hid (IntsR w (.slice da dn dc) drop) := hd
  have HA : Hid (MetsR w (.slice aa an ac) adds) := ha
  have HE : Hid (EnvL w) := he
  have HEd := hid (edP_oct seq next drop adds)
  have HP : Hid (edP seq next drop adds = (edF seq next drop adds, 0)) := by unfold Hid edP; rw [if_pos henc]
  have HOk := hid (note_ok hlen)
  have H1 : Hid (∀ W, Below w.heap.size w W → Calls Tryz.prog 35 #[.int .u8 109, .int .i64 7] W fun e w' => e = .returned (.tuple #[.string { data := #[109, 55] }, .int .i64 0]) ∧ Below W.heap.size W w') := fun W hW => nameX 109 7 { data := #[109, 55] } 0 (by rw [name_m7]; rfl) (by omega) W (HE.out.up hW).1
  obtain ⟨w0, hw0⟩ : ∃ w0, w0 = w.alloc (.cells #[.slice da dn dc, .slice aa an ac, .int .i64 seq, .int .i64 next] 42) := ⟨_, rfl⟩
  have HW0 : Hid (w.alloc (.cells #[.slice da dn dc, .slice aa an ac, .int .i64 seq, .int .i64 next] 42) = w0) := hid hw0.symm
  have U0 : Hid (Below w.heap.size w w0) := by rw [hw0]; exact up_alloc _ _
  have B0 : Hid (w0.heap[w.heap.size]? = some (.cells #[.slice da dn dc, .slice aa an ac, .int .i64 seq, .int .i64 next] 42)) := by rw [hw0]; exact blk_new _ _
  generalize edF seq next drop adds = F at *
  clear hw0 hd ha he
  go_enter Tryz.func12, Tryz.ntmps12
  go_upto_region 1 with fail
  rw [HW0.out]
  clear HW0
  go_wp2_with fail
  refine (H1.out w0 U0.out).mono ?_
  rintro e w1 ⟨rfl, u1⟩
  have B1 := hid (blk_up B0.out u1)
  have x0 := blk_cell B1.out 0 _ rfl
  have x1 := blk_cell B1.out 1 _ rfl
  have x2 := blk_cell B1.out 2 _ rfl
  have x3 := blk_cell B1.out 3 _ rfl
  have U1 : Hid (Below w.heap.size w w1) := up_trans U0.out u1
  go_wp2_with fail
  refine (edOct_any seq next drop adds da aa dn dc an ac w1 (HD.out.up U1.out) (HA.out.up U1.out)).mono ?_
  rintro e w2 ⟨a2, n2, c2, rfl, O2, b2⟩
  rw [HP.out] at O2 ⊢
  have U2 : Hid (Below w.heap.size w w2) := up_trans U1.out b2.out
  have OC : Hid (Octs w2 (.slice a2 n2 c2) F) := Octs.own O2.out (by have := HEd.out; rw [HP.out] at this; exact this)
  clear O2 H1 x0 x1 x2 x3
  go_wp2_with fail
  go_ret2
  have hs7 : strOfNums [109, 55] = ({ data := #[109, 55] } : ByteArray) := rfl
  have HR : Hid (Rws 4 (w2.alloc (.cells #[.int .i64 2, .string ⟨#[109, 55]⟩, .string ⟨#[]⟩, .slice a2 n2 c2, .int .i64 3, .string ⟨#[109, 55]⟩, .string ⟨#[]⟩, .slice none 0 0] 94)) (.slice (some ⟨w2.heap.size, 0, none⟩) 2 2) [[.int .i64 2, .string ⟨#[109, 55]⟩, .string ⟨#[]⟩, .slice a2 n2 c2], [.int .i64 3, .string ⟨#[109, 55]⟩, .string ⟨#[]⟩, .slice none 0 0]]) :=
    Rws.made (sz := 4) w2 94 [[.int .i64 2, .string ⟨#[109, 55]⟩, .string ⟨#[]⟩, .slice a2 n2 c2], [.int .i64 3, .string ⟨#[109, 55]⟩, .string ⟨#[]⟩, .slice none 0 0]] (by intro cs hcs; simp at hcs; rcases hcs with rfl | rfl <;> rfl) (by simp [maxLen])
  refine ⟨_, _, rfl, ⟨[(.slice a2 n2 c2, ⟨2, [109, 55], [], F⟩), (nilV, ⟨3, [109, 55], [], []⟩)], rfl, HR.out, ?_⟩, up_al U2.out _⟩
  intro y hy
  simp only [List.mem_cons, List.not_mem_nil, or_false] at hy
  rcases hy with rfl | rfl
  · exact ⟨OC.out.up (up_alloc _ _), HOk.out.1⟩
  · exact ⟨Octs.own (OwnB.nil _ 0) (by simp), HOk.out.2⟩
end Go.Proofs.YtnchjlimkgbfpaaGreatDoor

namespace Go.Proofs.YtnchjlimkgbfpaaGreatDoor
open Go.RowKit
set_option linter.unusedVariables false
set_option linter.unusedSimpArgs false
set_option maxRecDepth 20000
theorem begun_d7 (ts : List Me) (sq nx : Int) : begunP d0 ts sq nx 7 = if errV ts sq nx = 0 then (d1 [109, 55] (edF sq nx [] ts) (ptrF 7), true) else (d0, false) := by
  by_cases h : errV ts sq nx = 0
  · have hb : begP d0 ts sq nx 7 = (begA [109, 55] (edF sq nx [] ts) (ptrF 7), 0) := by
      unfold begP
      rw [check_d0, if_pos rfl, if_pos h, if_pos (by decide), name_m7, begL_none (by simp [d0]) (by simp [d0])]
    unfold begunP
    rw [hb, if_pos rfl, if_pos h]
    dsimp only
    rw [run_d0 (by decide) (by decide) (by decide) (by decide) (by decide) (enc_sizes h (by omega))]
    rfl
  · have hb : begP d0 ts sq nx 7 = ([], 9) := by
      unfold begP
      rw [check_d0, if_pos rfl, if_neg h]
    unfold begunP
    rw [hb, if_neg (by decide), if_neg h]
theorem good_m7 {ts : List Me} {sq nx : Int} (h : errV ts sq nx = 0) : Good (d1 [109, 55] (edF sq nx [] ts) (ptrF 7)) :=
  good_d1 (by decide) (by decide) (by decide) (by decide) (by decide) (enc_sizes h (by omega))
theorem note_len {ts : List Me} {sq nx : Int} {dr : List Int} {ad : List Me} {sq2 nx2 : Int} (h : (appM ts sq nx dr ad sq2 nx2).2 = 0) : (edF sq2 nx2 dr ad).length ≤ 140737488355328 := by
  have := edF_len (app_ok h).2.2.2
  omega
end Go.Proofs.YtnchjlimkgbfpaaGreatDoor

namespace Go.Proofs.YtnchjlimkgbfpaaGreatDoor
open Go.RowKit
set_option linter.unusedVariables false
set_option maxRecDepth 20000
set_option linter.unusedSimpArgs false
set_option maxHeartbeats 2000000 in
set_option maxRecDepth 100000 in
theorem sameMetas_some (l l' : List Me) (v u : Value) (w : World) (hv : MetsR w v l) (hu : MetsR w u l') :
    Calls Tryz.prog 48 #[v, u] w fun e w' => ∃ b, e = .returned (.bool b) ∧ ∃ d, w' = w.drewN d := by
  have HV : Hid (MetsR w v l) := hv
  have HU : Hid (MetsR w u l') := hu
  obtain ⟨a1, c1, rfl, g1, m1⟩ := hv.len
  obtain ⟨a2, c2, rfl, g2, m2⟩ := hu.len
  have hl63 : l.length ≤ 9223372036854775807 := by unfold maxLen at m1; omega
  have hl63' : l'.length ≤ 9223372036854775807 := by unfold maxLen at m2; omega
  clear hv hu g1 g2 m1 m2
  by_cases hL : l.length = l'.length
  case neg =>
    have hLb : ((l.length : Int) != (l'.length : Int)) = true := by simp; omega
    have hLi : ¬ (l.length : Int) = (l'.length : Int) := by omega
    go_enter Tryz.func48, Tryz.ntmps48
    go_wp2_with fail
    go_ret
    first | exact ⟨_, rfl, 0, rfl⟩ | exact ⟨.inl rfl, 0, rfl⟩ | exact .inl rfl
  rw [← hL] at HU ⊢
  go_enter Tryz.func48, Tryz.ntmps48
  go_wp2_with fail
  go_loopw [5] (fun i wr => ∃ (k d : Nat), k ≤ l.length ∧ i = .int .i64 k ∧ wr = w.drewN d) (fun i _ => l.length - (intOf i).toNat)
  case atStart => exact ⟨0, 0, Nat.zero_le _, rfl, rfl⟩
  case round =>
    obtain ⟨k, d, hk, rfl, rfl⟩ := hrel
    by_cases hlt : k < l.length
    · have hlt' : (k : Int) < (l.length : Int) := by omega
      obtain ⟨b, off, cap, x, e, hx, x0, x1, x2, x3, x4⟩ := HV.out.at k hlt
      obtain ⟨b', off', cap', y, e', hy, y0, y1, y2, y3, y4⟩ := HU.out.at k (by omega)
      simp at e e'
      obtain ⟨rfl, rfl⟩ := e
      obtain ⟨rfl, -, rfl⟩ := e'
      clear hx hy
      by_cases h1 : x.id = y.id
      case neg =>
        go_wp2_with fail
        go_quiet (fail)
        go_wp2_with fail
        go_ret
        exact ⟨false, rfl, d + nq, by first | rfl | (simp; done) | (rw [World.drewN_drewN]; done) | (rw [World.drewN_add]; done)⟩
      by_cases h2 : x.lvl = y.lvl
      case neg =>
        go_wp2_with fail
        go_quiet (fail)
        go_wp2_with fail
        go_ret
        exact ⟨false, rfl, d + nq, by first | rfl | (simp; done) | (rw [World.drewN_drewN]; done) | (rw [World.drewN_add]; done)⟩
      by_cases h3 : x.cnt = y.cnt
      case neg =>
        go_wp2_with fail
        go_quiet (fail)
        go_wp2_with fail
        go_ret
        exact ⟨false, rfl, d + nq, by first | rfl | (simp; done) | (rw [World.drewN_drewN]; done) | (rw [World.drewN_add]; done)⟩
      by_cases h4 : x.low.toList = y.low.toList
      case neg =>
        go_wp2_with fail
        go_quiet (fail)
        go_wp2_with fail
        go_ret
        exact ⟨false, rfl, d + nq, by first | rfl | (simp; done) | (rw [World.drewN_drewN]; done) | (rw [World.drewN_add]; done)⟩
      by_cases h5 : x.high.toList = y.high.toList
      case neg =>
        go_wp2_with fail
        go_quiet (fail)
        go_wp2_with fail
        go_ret
        exact ⟨false, rfl, d + nq, by first | rfl | (simp; done) | (rw [World.drewN_drewN]; done) | (rw [World.drewN_add]; done)⟩
      go_wp2_with fail
      go_quiet (fail)
      go_wp2_with fail
      exact ⟨⟨k + 1, d + nq, by omega, by go_num, rfl⟩, by simp [intOf]; omega⟩
    · have hlt' : ¬ (k : Int) < (l.length : Int) := by omega
      go_wp2_with fail
      go_ret
      first | exact ⟨.inr rfl, d, rfl⟩ | exact ⟨.inl rfl, d, rfl⟩ | exact ⟨_, rfl, d, rfl⟩ | exact .inr rfl
set_option maxHeartbeats 2000000 in
set_option maxRecDepth 100000 in
theorem alike_some (l l' : List Me) (seq next seq' next' : Int) (va ua : Option Addr) (vn vc un uc : Nat) (w : World) (hv : MetsR w (.slice va vn vc) l) (hu : MetsR w (.slice ua un uc) l') :
    Calls Tryz.prog 17 #[.agg #[.slice va vn vc, .int .i64 seq, .int .i64 next], .agg #[.slice ua un uc, .int .i64 seq', .int .i64 next']] w fun e w' => ∃ k : Int, e = .returned (.int .i64 k) ∧ Hid (Below w.heap.size w w') := by
  obtain ⟨w0, hw0⟩ : ∃ w0, w0 = (w.alloc (.cells #[.slice va vn vc, .int .i64 seq, .int .i64 next] 39)).alloc (.cells #[.slice ua un uc, .int .i64 seq', .int .i64 next'] 28) := ⟨_, rfl⟩
  have HW0 : Hid ((w.alloc (.cells #[.slice va vn vc, .int .i64 seq, .int .i64 next] 39)).alloc (.cells #[.slice ua un uc, .int .i64 seq', .int .i64 next'] 28) = w0) := hw0.symm
  have B0 : Hid (w0.heap[w.heap.size]? = some (.cells #[.slice va vn vc, .int .i64 seq, .int .i64 next] 39)) := by rw [hw0]; exact blk_up (blk_new _ _) (up_alloc _ _)
  have B1 : Hid (w0.heap[w.heap.size + 1]? = some (.cells #[.slice ua un uc, .int .i64 seq', .int .i64 next'] 28)) := by
    rw [hw0]
    have := blk_new (w.alloc (.cells #[.slice va vn vc, .int .i64 seq, .int .i64 next] 39)) (.cells #[.slice ua un uc, .int .i64 seq', .int .i64 next'] 28)
    rw [show (w.alloc (.cells #[.slice va vn vc, .int .i64 seq, .int .i64 next] 39)).heap.size = w.heap.size + 1 by simp] at this
    exact this
  have U0 : Hid (Below w.heap.size w w0) := by rw [hw0]; exact up_al (up_alloc _ _) _
  have HC : Hid (Calls Tryz.prog 48 #[.slice va vn vc, .slice ua un uc] w0 fun e w' => ∃ b, e = .returned (.bool b) ∧ ∃ d, w' = w0.drewN d) := sameMetas_some l l' _ _ w0 (hv.up U0.out) (hu.up U0.out)
  have q0 := blk_cell B0.out 0 _ rfl
  have q1 := blk_cell B0.out 1 _ rfl
  have q2 := blk_cell B0.out 2 _ rfl
  have p0 := blk_cell B1.out 0 _ rfl
  have p1 := blk_cell B1.out 1 _ rfl
  have p2 := blk_cell B1.out 2 _ rfl
  clear hv hu hw0
  go_enter Tryz.func17, Tryz.ntmps17
  go_upto_region 1 with fail
  rw [HW0.out]
  go_wp2_with fail
  refine HC.out.mono ?_
  rintro e w1 ⟨b, rfl, d, rfl⟩
  cases b with
  | false =>
    go_wp2_with fail
    go_ret
    exact ⟨_, rfl, up_trans U0.out (up_drewN _ _)⟩
  | true =>
    by_cases h1 : seq = seq'
    case neg =>
      have h1b : (seq != seq') = true := by simpa using h1
      go_wp2_with fail
      go_ret
      exact ⟨_, rfl, up_trans U0.out (up_drewN _ _)⟩
    subst h1
    by_cases h2 : next = next'
    case neg =>
      have h2b : (next != next') = true := by simpa using h2
      go_wp2_with fail
      go_ret
      exact ⟨_, rfl, up_trans U0.out (up_drewN _ _)⟩
    subst h2
    go_wp2_with fail
    go_ret
    exact ⟨_, rfl, up_trans U0.out (up_drewN _ _)⟩
end Go.Proofs.YtnchjlimkgbfpaaGreatDoor

namespace Go.Proofs.YtnchjlimkgbfpaaGreatDoor
open Go.RowKit SumPlain
set_option linter.unusedVariables false
set_option maxRecDepth 20000
theorem Octs.far {w w' : World} {v : Value} {l : List Int} {r : Option Nat} (h : Octs w v l) (hg : w.grownBy w' r) (hne : ∀ b, v.ownBlock = some b → l ≠ [] → some b ≠ r) : Octs w' v l :=
  h.moved fun b off x hn hv hc => hg.cell hc (hne b hv hn)
theorem Octs.lt {w : World} {v : Value} {l : List Int} (h : Octs w v l) (b : Nat) (hb : v.ownBlock = some b) (hn : l ≠ []) : b < w.heap.size := by
  obtain ⟨_, h⟩ := h
  rcases h with ⟨h0, _⟩ | ⟨_, b', off, cap, rfl, _, _, hj⟩
  · exact absurd h0 hn
  · simp [Value.ownBlock] at hb
    subst hb
    cases l with
    | nil => exact absurd rfl hn
    | cons x r => exact World.block_lt_of_cell? w ⟨b', off + 0, none⟩ (hj 0 x rfl)
end Go.Proofs.YtnchjlimkgbfpaaGreatDoor
