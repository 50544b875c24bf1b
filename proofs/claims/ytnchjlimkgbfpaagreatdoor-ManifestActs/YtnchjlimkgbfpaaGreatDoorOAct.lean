
import Derived.Test.YtnchjlimkgbfpaaGreatDoorOBgr
import Derived.Test.YtnchjlimkgbfpaaGreatDoorZ36
import Derived.Test.YtnchjlimkgbfpaaGreatDoorZ37
import Derived.Test.YtnchjlimkgbfpaaGreatDoorZ38
import Derived.Test.YtnchjlimkgbfpaaGreatDoorZ34
namespace Go.Proofs.YtnchjlimkgbfpaaGreatDoor
open Go.RowKit
set_option linter.unusedVariables false
set_option linter.unusedSimpArgs false
set_option maxRecDepth 20000
set_option maxHeartbeats 8000000 in
theorem acts_walk (s : St) (v : Value) (ts : List Me) (seq next id : Int) (drop : List Int) (add : List Me) (sq2 nx2 : Int) (va da aa : Option Addr) (vn vc dn dc en ec : Nat) (w : World) (hv : StW w v s) (h1 : s.files.length * 40 ≤ 140737488351232) (h2 : s.names.length * 24 ≤ 140737488351232) (h3 : s.safe.length * 24 ≤ 140737488351232) (hm : MetsR w (.slice va vn vc) ts) (htl : ts.length ≤ 4000000000000) (hd : IntsR w (.slice da dn dc) drop) (hdl : drop.length ≤ 17592186044416) (ha : MetsR w (.slice aa en ec) add) (hal : add.length ≤ 4000000000000) (he : EnvL w) :
    Calls Tryz.prog 3 #[v, .agg #[.slice va vn vc, .int .i64 seq, .int .i64 next], .int .i64 id, .agg #[.slice da dn dc, .slice aa en ec, .int .i64 sq2, .int .i64 nx2]] w fun e w' => e = .returned (.bool true) ∧ Hid (Below w.heap.size w w') := by
  obtain ⟨af, nf, cf, an, nn, cn, as', ns, cs', ev⟩ := hv.shape
  subst ev
  have HS : Hid (StW w (.agg #[.int .i64 s.cap, .slice af nf cf, .slice an nn cn, .slice as' ns cs', .int .i64 s.next]) s) := hv
  have HM : Hid (MetsR w (.slice va vn vc) ts) := hm
  have HDr : Hid (IntsR w (.slice da dn dc) drop) := hd
  have HAd : Hid (MetsR w (.slice aa en ec) add) := ha
  have HE : Hid (EnvL w) := he
  have HNl : Hid (s.names.length + s.safe.length ≤ 9223372036854775807) := by unfold Hid; omega
  obtain ⟨w1, hw1⟩ : ∃ w1, w1 = ((w.alloc (.cells #[.int .i64 s.cap, .slice af nf cf, .slice an nn cn, .slice as' ns cs', .int .i64 s.next] 25)).alloc (.cells #[.slice va vn vc, .int .i64 seq, .int .i64 next] 28)).alloc (.cells #[.slice da dn dc, .slice aa en ec, .int .i64 sq2, .int .i64 nx2] 31) := ⟨_, rfl⟩
  have HW1 : Hid (((w.alloc (.cells #[.int .i64 s.cap, .slice af nf cf, .slice an nn cn, .slice as' ns cs', .int .i64 s.next] 25)).alloc (.cells #[.slice va vn vc, .int .i64 seq, .int .i64 next] 28)).alloc (.cells #[.slice da dn dc, .slice aa en ec, .int .i64 sq2, .int .i64 nx2] 31) = w1) := hid hw1.symm
  have U1 : Hid (Below w.heap.size w w1) := by rw [hw1]; exact up_al (up_al (up_alloc _ _) _) _
  have sz1 : ∀ (W : World) (o : Obj), (W.alloc o).heap.size = W.heap.size + 1 := fun W o => by simp
  have B0 : Hid (w1.heap[w.heap.size]? = some (.cells #[.int .i64 s.cap, .slice af nf cf, .slice an nn cn, .slice as' ns cs', .int .i64 s.next] 25)) := by rw [hw1]; exact blk_up (blk_up (blk_new _ _) (up_alloc _ _)) (up_alloc _ _)
  have B1 : Hid (w1.heap[w.heap.size + 1]? = some (.cells #[.slice va vn vc, .int .i64 seq, .int .i64 next] 28)) := by
    rw [hw1, ← sz1 w (.cells #[.int .i64 s.cap, .slice af nf cf, .slice an nn cn, .slice as' ns cs', .int .i64 s.next] 25)]
    exact blk_up (blk_new _ _) (up_alloc _ _)
  have B2 : Hid (w1.heap[w.heap.size + 1 + 1]? = some (.cells #[.slice da dn dc, .slice aa en ec, .int .i64 sq2, .int .i64 nx2] 31)) := by
    rw [hw1, ← sz1 w (.cells #[.int .i64 s.cap, .slice af nf cf, .slice an nn cn, .slice as' ns cs', .int .i64 s.next] 25), ← sz1 (w.alloc (.cells #[.int .i64 s.cap, .slice af nf cf, .slice an nn cn, .slice as' ns cs', .int .i64 s.next] 25)) (.cells #[.slice va vn vc, .int .i64 seq, .int .i64 next] 28)]
    exact blk_new _ _
  clear hw1 sz1 hv hm hd ha he
  go_enter Tryz.func3, Tryz.ntmps3
  go_upto_region 1 with fail
  rw [HW1.out]
  clear HW1
  generalize hN2 : w.heap.size + 1 + 1 = N2 at *
  generalize hN1 : w.heap.size + 1 = N1 at *
  clear hN1 hN2
  have HCS : Hid (∀ W, Below w1.heap.size w1 W → (W.cell? ⟨w.heap.size, 0, none⟩ = some (.int .i64 s.cap) ∧ W.cell? ⟨w.heap.size, 1, none⟩ = some (.slice af nf cf) ∧ W.cell? ⟨w.heap.size, 2, none⟩ = some (.slice an nn cn) ∧ W.cell? ⟨w.heap.size, 3, none⟩ = some (.slice as' ns cs') ∧ W.cell? ⟨w.heap.size, 4, none⟩ = some (.int .i64 s.next)) ∧ (W.cell? ⟨N1, 0, none⟩ = some (.slice va vn vc) ∧ W.cell? ⟨N1, 1, none⟩ = some (.int .i64 seq) ∧ W.cell? ⟨N1, 2, none⟩ = some (.int .i64 next)) ∧ (W.cell? ⟨N2, 0, none⟩ = some (.slice da dn dc) ∧ W.cell? ⟨N2, 1, none⟩ = some (.slice aa en ec) ∧ W.cell? ⟨N2, 2, none⟩ = some (.int .i64 sq2) ∧ W.cell? ⟨N2, 3, none⟩ = some (.int .i64 nx2))) := fun W h =>
    have g0 := blk_up B0.out h
    have g1 := blk_up B1.out h
    have g2 := blk_up B2.out h
    ⟨⟨blk_cell g0 0 _ rfl, blk_cell g0 1 _ rfl, blk_cell g0 2 _ rfl, blk_cell g0 3 _ rfl, blk_cell g0 4 _ rfl⟩, ⟨blk_cell g1 0 _ rfl, blk_cell g1 1 _ rfl, blk_cell g1 2 _ rfl⟩, ⟨blk_cell g2 0 _ rfl, blk_cell g2 1 _ rfl, blk_cell g2 2 _ rfl, blk_cell g2 3 _ rfl⟩⟩
  have C7 : Hid (∀ W, Below w1.heap.size w1 W → Calls Tryz.prog 7 #[.agg #[.int .i64 s.cap, .slice af nf cf, .slice an nn cn, .slice as' ns cs', .int .i64 s.next]] W fun e w' => ∃ v', e = .returned v' ∧ Hid (OwnV w' w1.heap.size v' s) ∧ Hid (Below W.heap.size W w')) := by
    intro W u
    refine (of_any s _ W (HS.out.up (up_trans U1.out u)) h1 h2 h3).mono ?_
    rintro e w' ⟨v', rfl, ho, hb⟩
    exact ⟨v', rfl, ho.mono u.size, hb⟩
  have C8 : Hid (∀ W, Below w1.heap.size w1 W → Calls Tryz.prog 8 #[.agg #[.slice va vn vc, .int .i64 seq, .int .i64 next]] W fun e w' => ∃ v', e = .returned v' ∧ Hid (OwnW w' w1.heap.size v' ts seq next) ∧ Hid (Below W.heap.size W w')) := by
    intro W u
    refine (of_anyE ts seq next va vn vc W (HM.out.up (up_trans U1.out u)) htl).mono ?_
    rintro e w' ⟨a, n, c, rfl, ho, hb⟩
    exact ⟨_, rfl, ⟨a, n, c, rfl, OwnR.mono ho.out u.size⟩, hb⟩
  have C9 : Hid (∀ W, Below w1.heap.size w1 W → Calls Tryz.prog 9 #[.agg #[.slice da dn dc, .slice aa en ec, .int .i64 sq2, .int .i64 nx2]] W fun e w' => ∃ v', e = .returned v' ∧ Hid (OwnE w' w1.heap.size v' drop add sq2 nx2) ∧ Hid (Below W.heap.size W w')) := by
    intro W u
    refine (ofEdit_any drop add sq2 nx2 da aa dn dc en ec W (HDr.out.up (up_trans U1.out u)) (HAd.out.up (up_trans U1.out u)) hdl hal).mono ?_
    rintro e w' ⟨a, n, c, a', n', c', rfl, ho, ho', hb⟩
    exact ⟨_, rfl, ⟨a, n, c, a', n', c', rfl, ho.out.mono u.size, OwnR.mono ho'.out u.size⟩, hb⟩
  clear h1 h2 h3 htl hdl hal B0 B1 B2
  refine wp_region_any (by kernel_rfl) (wpAny_inv (JA s ts seq next drop add sq2 nx2 (.agg #[.int .i64 s.cap, .slice af nf cf, .slice an nn cn, .slice as' ns cs', .int .i64 s.next]) (.agg #[.slice va vn vc, .int .i64 seq, .int .i64 next]) (.agg #[.slice da dn dc, .slice aa en ec, .int .i64 sq2, .int .i64 nx2]) w1 (.agg #[.int .i64 s.cap, .slice af nf cf, .slice an nn cn, .slice as' ns cs', .int .i64 s.next]) (.agg #[.slice va vn vc, .int .i64 seq, .int .i64 next]) (.int .i64 id) (.agg #[.slice da dn dc, .slice aa en ec, .int .i64 sq2, .int .i64 nx2]) (.pointer (some ⟨w.heap.size, 0, none⟩)) (.pointer (some ⟨N1, 0, none⟩)) (.pointer (some ⟨N2, 0, none⟩))) ?step ?done _ _ _ _ (by simp) (notYet_rep _) ?init)
  case init =>
    exact ⟨undef, undef, undef, undef, undef, undef, undef, undef, undef, zeroA, zeroB, zeroC, rfl, ⟨up_dr (Below.refl _ _), (fun q => by rw [got_none] at q; cases q), (fun q => by rw [got_none] at q; cases q), (fun q => by rw [got_none] at q; cases q), (fun q => by rw [got_none] at q; cases q), (fun q => by rw [got_none] at q; cases q), (fun q => by rw [got_none] at q; cases q), (fun q => by rw [got_none] at q; cases q), (fun q => by rw [got_none] at q; cases q), (fun q => by rw [got_none] at q; cases q), (fun _ => rfl), (fun _ => rfl), (fun _ => rfl), (fun q => by rw [got_none] at q; cases q), (fun q => by rw [got_none] at q; cases q), (fun q => by rw [got_none] at q; cases q), (fun q => by rw [got_none] at q; cases q), (fun q => by rw [got_none] at q; cases q), (fun q => by rw [got_none] at q; cases q), (fun q => by rw [got_none] at q; cases q), (fun q => by rw [got_none] at q; cases q)⟩⟩
  case step =>
    intro l a wq i hs hJ hi
    obtain ⟨p9, p10, p11, v20, v21, v22, v23, v24, v25, zA, zB, zC, rfl, hF⟩ := hJ
    have hsz : l.size = 12 := by simpa using hs
    have hn := (got_not (mem_ready.1 hi).1).1
    have hlt : i < 12 := by have := ready_lt hi; simpa using this
    have HF := hid hF
    have HSZ := hid hsz
    have HNn := hid hn
    have HI := hid hi
    clear hs hF hsz hn hi
    have hcases : i = 0 ∨ i = 1 ∨ i = 2 ∨ i = 3 ∨ i = 4 ∨ i = 5 ∨ i = 6 ∨ i = 7 ∨ i = 8 ∨ i = 9 ∨ i = 10 ∨ i = 11 := by omega
    clear hlt
    rcases hcases with rfl | rfl | rfl | rfl | rfl | rfl | rfl | rfl | rfl | rfl | rfl | rfl
    · refine wpOp_step rfl (fun K' hK => ?_)
      have HK := hid hK
      clear hK
      obtain ⟨⟨x0, x1, x2, x3, x4⟩, ⟨y0, y1, y2⟩, ⟨z0, z1, z2, z3⟩⟩ := HCS.out wq HF.out.up
      simp only [actA]
      go_simp
      exact HK.out _ _ ⟨_, _, _, _, _, _, _, _, _, _, _, _, rfl, HF.out.put0 HSZ.out HNn.out⟩
    · have h0 := ready_after HI.out rfl 0 (by rfl)
      obtain rfl := HF.out.f0 h0
      refine wpOp_step rfl (fun K' hK => ?_)
      have HK := hid hK
      clear hK
      simp only [actA]
      go_simp
      refine (C7.out wq HF.out.up).mono ?_
      rintro e wr ⟨v', rfl, ho, hb⟩
      try go_wp2_with fail
      exact HK.out _ _ ⟨_, _, _, _, _, _, _, _, _, _, _, _, rfl, (HF.out.grow hb.out).put1 HSZ.out HNn.out ho.out⟩
    · refine wpOp_step rfl (fun K' hK => ?_)
      have HK := hid hK
      clear hK
      obtain ⟨⟨x0, x1, x2, x3, x4⟩, ⟨y0, y1, y2⟩, ⟨z0, z1, z2, z3⟩⟩ := HCS.out wq HF.out.up
      simp only [actA]
      go_simp
      exact HK.out _ _ ⟨_, _, _, _, _, _, _, _, _, _, _, _, rfl, HF.out.put2 HSZ.out HNn.out⟩
    · have h0 := ready_after HI.out rfl 2 (by rfl)
      obtain rfl := HF.out.f2 h0
      refine wpOp_step rfl (fun K' hK => ?_)
      have HK := hid hK
      clear hK
      simp only [actA]
      go_simp
      refine (C8.out wq HF.out.up).mono ?_
      rintro e wr ⟨v', rfl, ho, hb⟩
      try go_wp2_with fail
      exact HK.out _ _ ⟨_, _, _, _, _, _, _, _, _, _, _, _, rfl, (HF.out.grow hb.out).put3 HSZ.out HNn.out (ready_after HI.out rfl 1 (by rfl)) ho.out⟩
    · refine wpOp_step rfl (fun K' hK => ?_)
      have HK := hid hK
      clear hK
      obtain ⟨⟨x0, x1, x2, x3, x4⟩, ⟨y0, y1, y2⟩, ⟨z0, z1, z2, z3⟩⟩ := HCS.out wq HF.out.up
      simp only [actA]
      go_simp
      exact HK.out _ _ ⟨_, _, _, _, _, _, _, _, _, _, _, _, rfl, HF.out.put4 HSZ.out HNn.out⟩
    · have h0 := ready_after HI.out rfl 4 (by rfl)
      obtain rfl := HF.out.f4 h0
      refine wpOp_step rfl (fun K' hK => ?_)
      have HK := hid hK
      clear hK
      simp only [actA]
      go_simp
      refine (C9.out wq HF.out.up).mono ?_
      rintro e wr ⟨v', rfl, ho, hb⟩
      try go_wp2_with fail
      exact HK.out _ _ ⟨_, _, _, _, _, _, _, _, _, _, _, _, rfl, (HF.out.grow hb.out).put5 HSZ.out HNn.out (ready_after HI.out rfl 3 (by rfl)) ho.out⟩
    · refine wpOp_step rfl (fun K' hK => ?_)
      have HK := hid hK
      clear hK
      obtain ⟨⟨x0, x1, x2, x3, x4⟩, ⟨y0, y1, y2⟩, ⟨z0, z1, z2, z3⟩⟩ := HCS.out wq HF.out.up
      simp only [actA]
      go_simp
      exact HK.out _ _ ⟨_, _, _, _, _, _, _, _, _, _, _, _, rfl, (HF.out.grow (up_alloc _ _)).put6 HSZ.out HNn.out ⟨_, rfl, HF.out.up.size, blk_new _ _⟩⟩
    · refine wpOp_step rfl (fun K' hK => ?_)
      have HK := hid hK
      clear hK
      obtain ⟨⟨x0, x1, x2, x3, x4⟩, ⟨y0, y1, y2⟩, ⟨z0, z1, z2, z3⟩⟩ := HCS.out wq HF.out.up
      simp only [actA]
      go_simp
      exact HK.out _ _ ⟨_, _, _, _, _, _, _, _, _, _, _, _, rfl, (HF.out.grow (up_alloc _ _)).put7 HSZ.out HNn.out ⟨_, rfl, HF.out.up.size, blk_new _ _⟩⟩
    · refine wpOp_step rfl (fun K' hK => ?_)
      have HK := hid hK
      clear hK
      obtain ⟨⟨x0, x1, x2, x3, x4⟩, ⟨y0, y1, y2⟩, ⟨z0, z1, z2, z3⟩⟩ := HCS.out wq HF.out.up
      simp only [actA]
      go_simp
      exact HK.out _ _ ⟨_, _, _, _, _, _, _, _, _, _, _, _, rfl, (HF.out.grow (up_alloc _ _)).put8 HSZ.out HNn.out ⟨_, rfl, HF.out.up.size, blk_new _ _⟩⟩
    · have h5 := ready_after HI.out rfl 5 (by rfl)
      have h3 := HF.out.k5 h5
      have hG : Gd l := ⟨HF.out.k3 h3, h3, h5, ready_after HI.out rfl 6 (by rfl), ready_after HI.out rfl 7 (by rfl), ready_after HI.out rfl 8 (by rfl)⟩
      clear h3 h5
      obtain ⟨N, rfl, hN, hb⟩ := HF.out.f6 hG.2.2.2.1
      obtain rfl := HF.out.z9 HNn.out
      obtain ⟨qf, qnf, qcf, qn, qnn, qcn, qs, qns, qcs, ev⟩ := (HF.out.f1 hG.1).shape
      subst ev
      have hb : wq.heap[N]? = some (.cells #[.int .i64 0, .slice none 0 0, .slice none 0 0, .slice none 0 0, .int .i64 0] 35) := hb
      have r0 := blk_cell hb 0 _ rfl
      have f0 := blk_frozen hb 0
      have r1 := blk_cell hb 1 _ rfl
      have f1 := blk_frozen hb 1
      have r2 := blk_cell hb 2 _ rfl
      have f2 := blk_frozen hb 2
      have r3 := blk_cell hb 3 _ rfl
      have f3 := blk_frozen hb 3
      have r4 := blk_cell hb 4 _ rfl
      have f4 := blk_frozen hb 4
      have HB := hid hb
      have HN := hid hN
      have HG := hid hG
      clear hb hN hG
      refine wpOp_step rfl (fun K' hK => ?_)
      have HK := hid hK
      clear hK
      simp only [actA]
      go_simp
      have hb := HB.out
      exact HK.out _ _ ⟨_, _, _, _, _, _, _, _, _, _, _, _, rfl, HF.out.store9 HSZ.out HG.out rfl HN.out hb (set5_grown _ _ _ _ _ _ _) (set5_blk hb _ _ _ _ _) rfl⟩
    · have hG := HF.out.g9 (ready_after HI.out rfl 9 (by rfl))
      obtain ⟨N, rfl, hN, hb⟩ := HF.out.f7 hG.2.2.2.2.1
      obtain rfl := HF.out.z10 HNn.out
      obtain ⟨qa, qn, qc, ev, -⟩ := HF.out.f3 hG.2.1
      subst ev
      have hb : wq.heap[N]? = some (.cells #[.slice none 0 0, .int .i64 0, .int .i64 0] 39) := hb
      have r0 := blk_cell hb 0 _ rfl
      have f0 := blk_frozen hb 0
      have r1 := blk_cell hb 1 _ rfl
      have f1 := blk_frozen hb 1
      have r2 := blk_cell hb 2 _ rfl
      have f2 := blk_frozen hb 2
      have HB := hid hb
      have HN := hid hN
      have HG := hid hG
      clear hb hN hG
      refine wpOp_step rfl (fun K' hK => ?_)
      have HK := hid hK
      clear hK
      simp only [actA]
      go_simp
      have hb := HB.out
      exact HK.out _ _ ⟨_, _, _, _, _, _, _, _, _, _, _, _, rfl, HF.out.store10 HSZ.out HG.out rfl HN.out hb (set3_grown _ _ _ _ _) (set3_blk hb _ _ _) rfl⟩
    · have hG := HF.out.g10 (ready_after HI.out rfl 10 (by rfl))
      obtain ⟨N, rfl, hN, hb⟩ := HF.out.f8 hG.2.2.2.2.2
      obtain rfl := HF.out.z11 HNn.out
      obtain ⟨qa, qn, qc, qa', qn', qc', ev, -, -⟩ := HF.out.f5 hG.2.2.1
      subst ev
      have hb : wq.heap[N]? = some (.cells #[.slice none 0 0, .slice none 0 0, .int .i64 0, .int .i64 0] 42) := hb
      have r0 := blk_cell hb 0 _ rfl
      have f0 := blk_frozen hb 0
      have r1 := blk_cell hb 1 _ rfl
      have f1 := blk_frozen hb 1
      have r2 := blk_cell hb 2 _ rfl
      have f2 := blk_frozen hb 2
      have r3 := blk_cell hb 3 _ rfl
      have f3 := blk_frozen hb 3
      have HB := hid hb
      have HN := hid hN
      have HG := hid hG
      clear hb hN hG
      refine wpOp_step rfl (fun K' hK => ?_)
      have HK := hid hK
      clear hK
      simp only [actA]
      go_simp
      have hb := HB.out
      exact HK.out _ _ ⟨_, _, _, _, _, _, _, _, _, _, _, _, rfl, HF.out.store11 HSZ.out HG.out rfl HN.out hb (set4_grown _ _ _ _ _ _) (set4_blk hb _ _ _ _) rfl⟩
  case done =>
    intro l a w2 hs hJ hr
    obtain ⟨p9, p10, p11, v20, v21, v22, v23, v24, v25, zA, zB, zC, rfl, hF⟩ := hJ
    have hsz : l.size = 12 := by simpa using hs
    have hall := all_in hr hs (by kernel_rfl)
    have L0 := hall 12 0 (by omega) (by simp)
    have L1 := hall 12 1 (by omega) (by simp)
    have L2 := hall 12 2 (by omega) (by simp)
    have L3 := hall 12 3 (by omega) (by simp)
    have L4 := hall 12 4 (by omega) (by simp)
    have L5 := hall 12 5 (by omega) (by simp)
    have L6 := hall 12 6 (by omega) (by simp)
    have L7 := hall 12 7 (by omega) (by simp)
    have L8 := hall 12 8 (by omega) (by simp)
    have L9 := hall 12 9 (by omega) (by simp)
    have L10 := hall 12 10 (by omega) (by simp)
    have L11 := hall 12 11 (by omega) (by simp)
    clear hall
    obtain ⟨qf, qnf, qcf, qn, qnn, qcn, qs, qns, qcs, ev⟩ := (hF.f1 L1).shape
    have OS : Hid (StW w2 v21 s) := StW.own (hF.f1 L1)
    have e9 := hF.e9 L9
    obtain ⟨xa, xn, xc, ew, hov⟩ := hF.f3 L3
    have OV : Hid (MetsR w2 (.slice xa xn xc) ts) := VerO.read hov
    have e10 := hF.e10 L10
    obtain ⟨ya, yn, yc, ma, mn, mc, ee, hoi, hoe⟩ := hF.f5 L5
    have OI : Hid (IntsR w2 (.slice ya yn yc) drop) := Rws.own hoi
    have OM : Hid (MetsR w2 (.slice ma mn mc) add) := VerO.read hoe
    have e11 := hF.e11 L11
    rw [ev] at e9 OS
    rw [ew] at e10
    rw [ee] at e11
    injection e9 with e9
    injection e10 with e10
    injection e11 with e11
    obtain ⟨NA, ep9, -, BA⟩ := hF.f6 L6
    obtain ⟨NB, ep10, -, BB⟩ := hF.f7 L7
    obtain ⟨NC, ep11, -, BC⟩ := hF.f8 L8
    rw [← e9] at BA
    rw [← e10] at BB
    rw [← e11] at BC
    have V2 := hid hF.up
    have KA := hid BA
    have KB := hid BB
    have KC := hid BC
    subst ep9 ep10 ep11
    clear e9 e10 e11 ev ew ee hov hoi hoe hF L0 L1 L2 L3 L4 L5 L6 L7 L8 L9 L10 L11 hs hr hsz BA BB BC C7 C8 C9
    have HCX : Hid (∀ W, Below w2.heap.size w2 W → (W.cell? ⟨w.heap.size, 0, none⟩ = some (.int .i64 s.cap) ∧ W.cell? ⟨w.heap.size, 1, none⟩ = some (.slice af nf cf) ∧ W.cell? ⟨w.heap.size, 2, none⟩ = some (.slice an nn cn) ∧ W.cell? ⟨w.heap.size, 3, none⟩ = some (.slice as' ns cs') ∧ W.cell? ⟨w.heap.size, 4, none⟩ = some (.int .i64 s.next)) ∧ (W.cell? ⟨N1, 0, none⟩ = some (.slice va vn vc) ∧ W.cell? ⟨N1, 1, none⟩ = some (.int .i64 seq) ∧ W.cell? ⟨N1, 2, none⟩ = some (.int .i64 next)) ∧ (W.cell? ⟨N2, 0, none⟩ = some (.slice da dn dc) ∧ W.cell? ⟨N2, 1, none⟩ = some (.slice aa en ec) ∧ W.cell? ⟨N2, 2, none⟩ = some (.int .i64 sq2) ∧ W.cell? ⟨N2, 3, none⟩ = some (.int .i64 nx2))) := fun W h => HCS.out W (up_trans V2.out h)
    have U2 : Hid (Below w.heap.size w w2) := up_trans U1.out V2.out
    clear HCS U1
    have HCN : Hid (∀ W, Below w2.heap.size w2 W → (W.cell? ⟨NA, 0, none⟩ = some (.int .i64 s.cap) ∧ W.cell? ⟨NA, 1, none⟩ = some (.slice qf qnf qcf) ∧ W.cell? ⟨NA, 2, none⟩ = some (.slice qn qnn qcn) ∧ W.cell? ⟨NA, 3, none⟩ = some (.slice qs qns qcs) ∧ W.cell? ⟨NA, 4, none⟩ = some (.int .i64 s.next)) ∧ (W.cell? ⟨NB, 0, none⟩ = some (.slice xa xn xc) ∧ W.cell? ⟨NB, 1, none⟩ = some (.int .i64 seq) ∧ W.cell? ⟨NB, 2, none⟩ = some (.int .i64 next)) ∧ (W.cell? ⟨NC, 0, none⟩ = some (.slice ya yn yc) ∧ W.cell? ⟨NC, 1, none⟩ = some (.slice ma mn mc) ∧ W.cell? ⟨NC, 2, none⟩ = some (.int .i64 sq2) ∧ W.cell? ⟨NC, 3, none⟩ = some (.int .i64 nx2))) := fun W h =>
      have g0 := blk_up KA.out h
      have g1 := blk_up KB.out h
      have g2 := blk_up KC.out h
      ⟨⟨blk_cell g0 0 _ rfl, blk_cell g0 1 _ rfl, blk_cell g0 2 _ rfl, blk_cell g0 3 _ rfl, blk_cell g0 4 _ rfl⟩, ⟨blk_cell g1 0 _ rfl, blk_cell g1 1 _ rfl, blk_cell g1 2 _ rfl⟩, ⟨blk_cell g2 0 _ rfl, blk_cell g2 1 _ rfl, blk_cell g2 2 _ rfl, blk_cell g2 3 _ rfl⟩⟩
    clear KA KB KC V2
    clear w1
    simp only [actA]
    have HX2 := hid (HCN.out w2 (Below.refl _ _))
    obtain ⟨⟨x0, x1, x2, x3, x4⟩, ⟨y0, y1, y2⟩, ⟨z0, z1, z2, z3⟩⟩ := HX2.out
    clear HX2
    generalize hR : begP s ts seq next id = R
    have CB : Hid (∀ W, Below w2.heap.size w2 W → Calls Tryz.prog 10 #[.agg #[.int .i64 s.cap, .slice qf qnf qcf, .slice qn qnn qcn, .slice qs qns qcs, .int .i64 s.next], .agg #[.slice xa xn xc, .int .i64 seq, .int .i64 next], .int .i64 id] W fun e w' => ∃ a n c, e = .returned (.tuple #[.slice a n c, .int .i64 R.2]) ∧ Hid (ActR w' (.slice a n c) R.1) ∧ Hid (Below W.heap.size W w')) := by
      intro W u
      have hh := begin_any s _ ts seq next id xa xn xc W (OS.out.up u) (OV.out.up u) HNl.out (HE.out.up (up_trans U2.out u))
      rw [hR] at hh
      refine hh.mono ?_
      rintro e w' ⟨a, n, c, rfl, ho, hb⟩
      exact ⟨a, n, c, rfl, ho.out.red, hb⟩
    have CR : Hid (∀ W, Below w2.heap.size w2 W → Calls Tryz.prog 11 #[.agg #[.int .i64 s.cap, .slice af nf cf, .slice an nn cn, .slice as' ns cs', .int .i64 s.next], .agg #[.slice va vn vc, .int .i64 seq, .int .i64 next], .int .i64 id] W fun e w' => ∃ a n c, e = .returned (.tuple #[.slice a n c, .int .i64 R.2]) ∧ Hid (ActR w' (.slice a n c) R.1) ∧ Hid (Below W.heap.size W w')) := by
      intro W u
      have hh := refBegin_any s _ ts seq next id va vn vc W (HS.out.up (up_trans U2.out u)) (HM.out.up (up_trans U2.out u))
      rw [hR] at hh
      exact hh
    clear hR
    generalize hT : notP id sq2 nx2 drop add = T
    have CN : Hid (∀ W, Below w2.heap.size w2 W → Calls Tryz.prog 12 #[.int .i64 id, .agg #[.slice ya yn yc, .slice ma mn mc, .int .i64 sq2, .int .i64 nx2]] W fun e w' => ∃ a n c, e = .returned (.tuple #[.slice a n c, .int .i64 T.2]) ∧ Hid (ActR w' (.slice a n c) T.1) ∧ Hid (Below W.heap.size W w')) := by
      intro W u
      have hh := noteX_any id sq2 nx2 drop add ya ma yn yc mn mc W (OI.out.up u) (OM.out.up u) (HE.out.up (up_trans U2.out u))
      rw [hT] at hh
      exact hh
    have CM : Hid (∀ W, Below w2.heap.size w2 W → Calls Tryz.prog 13 #[.int .i64 id, .agg #[.slice da dn dc, .slice aa en ec, .int .i64 sq2, .int .i64 nx2]] W fun e w' => ∃ a n c, e = .returned (.tuple #[.slice a n c, .int .i64 T.2]) ∧ Hid (ActR w' (.slice a n c) T.1) ∧ Hid (Below W.heap.size W w')) := by
      intro W u
      have hh := refNote_any id sq2 nx2 drop add da aa dn dc en ec W (HDr.out.up (up_trans U2.out u)) (HAd.out.up (up_trans U2.out u))
      rw [hT] at hh
      exact hh
    clear hT OI OM
    go_wp2_with fail
    refine (CB.out w2 (Below.refl _ _)).mono ?_
    rintro e w3 ⟨a3, n3, c3, rfl, A3, b3⟩
    have V3 : Hid (Below w2.heap.size w2 w3) := b3
    clear x0 x1 x2 x3 x4 y0 y1 y2 z0 z1 z2 z3 CB b3
    obtain ⟨⟨x0, x1, x2, x3, x4⟩, ⟨y0, y1, y2⟩, ⟨z0, z1, z2, z3⟩⟩ := HCX.out w3 V3.out
    go_wp2_with fail
    refine (CR.out w3 V3.out).mono ?_
    rintro e w4 ⟨a4, n4, c4, rfl, A4, b4⟩
    have V4 : Hid (Below w2.heap.size w2 w4) := up_trans V3.out b4.out
    have A3 := hid (A3.out.up b4.out)
    clear x0 x1 x2 x3 x4 y0 y1 y2 z0 z1 z2 z3 CR b4
    obtain ⟨⟨x0, x1, x2, x3, x4⟩, ⟨y0, y1, y2⟩, ⟨z0, z1, z2, z3⟩⟩ := HCN.out w4 V4.out
    go_wp2_with fail
    refine (CN.out w4 V4.out).mono ?_
    rintro e w5 ⟨a5, n5, c5, rfl, A5, b5⟩
    have V5 : Hid (Below w2.heap.size w2 w5) := up_trans V4.out b5.out
    have A3 := hid (A3.out.up b5.out)
    have A4 := hid (A4.out.up b5.out)
    clear x0 x1 x2 x3 x4 y0 y1 y2 z0 z1 z2 z3 CN b5
    obtain ⟨⟨x0, x1, x2, x3, x4⟩, ⟨y0, y1, y2⟩, ⟨z0, z1, z2, z3⟩⟩ := HCX.out w5 V5.out
    go_wp2_with fail
    refine (CM.out w5 V5.out).mono ?_
    rintro e w6 ⟨a6, n6, c6, rfl, A6, b6⟩
    have V6 : Hid (Below w2.heap.size w2 w6) := up_trans V5.out b6.out
    have A3 := hid (A3.out.up b6.out)
    have A4 := hid (A4.out.up b6.out)
    have A5 := hid (A5.out.up b6.out)
    clear x0 x1 x2 x3 x4 y0 y1 y2 z0 z1 z2 z3 CM b6
    go_wp2_with fail
    have hh := sameActs_self R.1 (.slice a3 n3 c3) (.slice a4 n4 c4) w6 A3.out A4.out
    refine Calls.mono hh ?_
    clear hh
    rintro e w7 ⟨rfl, d7, hw7⟩
    have V7 : Hid (Below w2.heap.size w2 w7) := by rw [hw7]; exact up_trans V6.out (up_drewN _ _)
    have A5 := hid (A5.out.up (show Below w6.heap.size w6 w7 by rw [hw7]; exact up_drewN _ _))
    have A6 := hid (A6.out.up (show Below w6.heap.size w6 w7 by rw [hw7]; exact up_drewN _ _))
    clear hw7 A3 A4
    go_wp2_with fail
    refine (num_any _ _).mono ?_
    rintro e wN ⟨rfl, hwN⟩
    have hwN := hwN.symm
    subst hwN
    go_wp2_with fail
    have hh := sameActs_self T.1 (.slice a5 n5 c5) (.slice a6 n6 c6) w7 A5.out A6.out
    refine Calls.mono hh ?_
    clear hh
    rintro e w8 ⟨rfl, d8, hw8⟩
    have V8 : Hid (Below w2.heap.size w2 w8) := by rw [hw8]; exact up_trans V7.out (up_drewN _ _)
    clear hw8 A5 A6
    go_wp2_with fail
    refine (num_any _ _).mono ?_
    rintro e wN ⟨rfl, hwN⟩
    have hwN := hwN.symm
    subst hwN
    obtain ⟨⟨x0, x1, x2, x3, x4⟩, ⟨y0, y1, y2⟩, ⟨z0, z1, z2, z3⟩⟩ := HCX.out w8 V8.out
    obtain ⟨⟨p0, p1, p2, p3, p4⟩, ⟨q0, q1, q2⟩, ⟨r0, r1, r2, r3⟩⟩ := HCN.out w8 V8.out
    go_wp2_with fail
    have hh := alikeS_self s _ _ w8 (OS.out.up V8.out) (HS.out.up (up_trans U2.out V8.out))
    refine Calls.mono hh ?_
    clear hh
    rintro e w9 ⟨rfl, b9⟩
    have V9 : Hid (Below w2.heap.size w2 w9) := up_trans V8.out b9
    clear b9 x0 x1 x2 x3 x4 y0 y1 y2 z0 z1 z2 z3 p0 p1 p2 p3 p4 q0 q1 q2 r0 r1 r2 r3
    obtain ⟨⟨x0, x1, x2, x3, x4⟩, ⟨y0, y1, y2⟩, ⟨z0, z1, z2, z3⟩⟩ := HCX.out w9 V9.out
    obtain ⟨⟨p0, p1, p2, p3, p4⟩, ⟨q0, q1, q2⟩, ⟨r0, r1, r2, r3⟩⟩ := HCN.out w9 V9.out
    go_wp2_with fail
    have hh := alike_self ts seq next xa va xn xc vn vc w9 (OV.out.up V9.out) (HM.out.up (up_trans U2.out V9.out))
    refine Calls.mono hh ?_
    clear hh
    rintro e w10 ⟨rfl, b10⟩
    have V10 : Hid (Below w2.heap.size w2 w10) := up_trans V9.out b10.out
    clear b10 x0 x1 x2 x3 x4 y0 y1 y2 z0 z1 z2 z3 p0 p1 p2 p3 p4 q0 q1 q2 r0 r1 r2 r3
    go_wp2_with fail
    have hh := alive_any w10 (HE.out.up (up_trans U2.out V10.out))
    refine Calls.mono hh ?_
    clear hh
    rintro e w11 ⟨rfl, b11⟩
    go_wp2_with fail
    try go_ret
    exact ⟨rfl, up_trans U2.out (up_trans V10.out b11)⟩
end Go.Proofs.YtnchjlimkgbfpaaGreatDoor
