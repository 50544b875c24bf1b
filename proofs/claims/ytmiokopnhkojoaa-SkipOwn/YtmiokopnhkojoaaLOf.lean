/- The law's Of: a list for the program, in memory of its own. -/
import Derived.Test.YtmiokopnhkojoaaPCop
import Derived.Test.YtmiokopnhkojoaaLArg
namespace Go.Proofs.Ytmiokopnhkojoaa
open Go.RowKit
set_option linter.unusedVariables false
set_option linter.unusedSimpArgs false

set_option maxHeartbeats 4000000 in
set_option maxRecDepth 100000 in
theorem of_any (s : Sk) (es : List (En × Value)) (vN vH : Value) (w : World) (h : SkE w vN vH s es) (hbig : SkBig s) :
    Calls Try.prog 8 #[.agg #[vN, vH]] w fun e w' => ∃ vN' vH', e = .returned (.agg #[vN', vH']) ∧ (∃ es', Hid (OwnSk w' w.heap.size 62 vN' vH' s es')) ∧ Hid (Below w.heap.size w w') := by
  obtain ⟨⟨aN, cN, rfl⟩, ⟨aH, cH, rfl⟩⟩ := h.form
  have HV : Hid (SkE w (.slice aN s.nodes.length cN) (.slice aH s.head.length cH) s es) := h
  have HBIG : Hid (SkBig s) := hbig
  have h63 : (s.nodes.length : Int) ≤ 9223372036854775807 := by have := hbig.1; omega
  have hn72 : s.nodes.length * 72 ≤ 140737488351232 := hbig.1
  generalize hHL : s.head.length = HL at *
  have HHL : Hid (s.head.length = HL) := hHL
  clear h hHL hbig
  obtain ⟨wa, hwa⟩ : ∃ wa, wa = (w.alloc (.cells #[.slice aN s.nodes.length cN, .slice aH HL cH] 25)).alloc (.cells #[.slice none 0 0, .slice none 0 0] 30) := ⟨_, rfl⟩
  have HWA : Hid ((w.alloc (.cells #[.slice aN s.nodes.length cN, .slice aH HL cH] 25)).alloc (.cells #[.slice none 0 0, .slice none 0 0] 30) = wa) := hwa.symm
  have HUA : Hid (Below w.heap.size w wa) := by rw [hwa]; exact up_al (up_al (Below.refl _ _) _) _
  have HBA : Hid (wa.heap[w.heap.size]? = some (.cells #[.slice aN s.nodes.length cN, .slice aH HL cH] 25) ∧ wa.heap[w.heap.size + 1]? = some (.cells #[.slice none 0 0, .slice none 0 0] 30)) := by
    refine ⟨by rw [hwa]; exact blk_up (blk_new w _) (up_alloc _ _), ?_⟩
    have := blk_new (w.alloc (.cells #[.slice aN s.nodes.length cN, .slice aH HL cH] 25)) (.cells #[.slice none 0 0, .slice none 0 0] 30)
    rw [← hwa] at this
    have e : (w.alloc (.cells #[.slice aN s.nodes.length cN, .slice aH HL cH] 25)).heap.size = w.heap.size + 1 := by simp
    rw [e] at this
    exact this
  have HCI := copyInts_any s.head (.slice aH HL cH) wa (HV.out.up HUA.out).head (by have := HBIG.out.2.1; omega)
  rw [HHL.out] at HCI
  have HCIH : Hid (Calls Try.prog 27 #[.slice aH HL cH] wa fun e w' => ∃ a c, e = .returned (.slice a HL c) ∧ Hid (OwnR w' wa.heap.size 3 1 (.slice a HL c) (s.head.map irow)) ∧ Hid (Below wa.heap.size wa w')) := HCI
  clear hwa HCI
  go_enter Try.func8, Try.ntmps8
  go_upto_region 1 with fail
  rw [HWA.out]
  have p1 : wa.cell? ⟨w.heap.size, 1, none⟩ = some (.slice aH HL cH) := blk_cell HBA.out.1 1 _ rfl
  clear HWA
  go_wp2_with fail
  refine HCIH.out.mono ?_
  rintro e wh ⟨ah, ch, rfl, HOH, HUH⟩
  have HBH : Hid (wh.heap[w.heap.size]? = some (.cells #[.slice aN s.nodes.length cN, .slice aH HL cH] 25) ∧ wh.heap[w.heap.size + 1]? = some (.cells #[.slice none 0 0, .slice none 0 0] 30)) := ⟨blk_up HBA.out.1 HUH.out, blk_up HBA.out.2 HUH.out⟩
  clear p1 HCIH
  obtain ⟨wt, hwt⟩ : ∃ wt, wt = wh.alloc (.cells #[.slice none 0 0, .slice ah HL ch] 30) := ⟨_, rfl⟩
  have HWT : Hid (wh.alloc (.cells #[.slice none 0 0, .slice ah HL ch] 30) = wt) := hwt.symm
  have HST : Hid (OpenK wt w.heap.size wh.heap.size 62 30 (.slice none 0 0) (.slice ah HL ch) ⟨s.nodes.take 0, s.head⟩ [] ∧ Below w.heap.size w wt ∧ wt.heap[w.heap.size]? = some (.cells #[.slice aN s.nodes.length cN, .slice aH HL cH] 25) ∧ wt.heap[w.heap.size + 1]? = some (.cells #[.slice none 0 0, .slice none 0 0] 30)) := by
    have ut : Below wh.heap.size wh wt := by rw [hwt]; exact up_alloc _ _
    refine ⟨⟨by rw [hwt]; exact blk_new _ _, rfl, OwnR.nil _ _ _ _, (HOH.out.mono HUA.out.size).up ut, (fun k p hk => by simp at hk), by simp⟩, up_trans (up_trans HUA.out HUH.out) ut, blk_up HBH.out.1 ut, blk_up HBH.out.2 ut⟩
  have HTT : Hid (w.heap.size ≤ wh.heap.size ∧ w.heap.size + 1 < wh.heap.size) := by
    have := blk_lt HBH.out.2
    exact ⟨by omega, this⟩
  clear hwt HUH HOH HBH HUA HBA
  go_wp2_with fail
  rw [HWT.out]
  generalize hT : wh.heap.size = T at *
  clear HWT hT
  go_loopw [4] (fun q wr => ∃ (i : Nat) (an' : Option Addr) (cn' : Nat) (es' : List (En × Value)), i ≤ s.nodes.length ∧ q = .int .i64 (i : Int) ∧ Hid (OpenK wr w.heap.size T 62 30 (.slice an' i cn') (.slice ah HL ch) ⟨s.nodes.take i, s.head⟩ es' ∧ Below w.heap.size w wr ∧ wr.heap[w.heap.size]? = some (.cells #[.slice aN s.nodes.length cN, .slice aH HL cH] 25) ∧ wr.heap[w.heap.size + 1]? = some (.cells #[.slice none 0 0, .slice none 0 0] 30))) (fun q _ => s.nodes.length - (intOf q).toNat)
  case atStart => exact ⟨0, none, 0, [], by omega, rfl, HST⟩
  case round =>
    clear HST
    obtain ⟨i, an', cn', es', hi, rfl, HO⟩ := hrel
    have p0 : wr.cell? ⟨w.heap.size, 0, none⟩ = some (.slice aN s.nodes.length cN) := blk_cell HO.out.2.2.1 0 _ rfl
    by_cases hlt : i < s.nodes.length
    · have hlt' : (i : Int) < (s.nodes.length : Int) := by omega
      have hi0 : 0 ≤ (i : Int) := by omega
      have HTKH : Hid ((⟨s.nodes.take (i + 1), s.head⟩ : Sk) = (⟨s.nodes.take i, s.head⟩ : Sk).snoc (s.at' i).1 (s.at' i).2) := take_at s i hlt
      obtain ⟨b, off, ai, ci, rfl, _, hw, y0, y1, y2, y3, y4⟩ := (HV.out.up HO.out.2.1).node i hlt
      have HNR : Hid (∀ X, Below wr.heap.size wr X → IntsR X (.slice ai (s.h i) ci) (s.at' i).2) := by
        intro X hX
        have := (HV.out.up (up_trans HO.out.2.1 hX)).way (i + 1) (by omega)
        rw [hw] at this
        exact this
      have HNL : Hid ((s.at' i).2.length ≤ 17592186044416 ∧ (s.at' i).2.length = s.h i) := ⟨by have := HBIG.out.2.2 i; unfold Sk.h at this; omega, rfl⟩
      generalize hy : (s.at' i).1 = y at *
      generalize hnx : (s.at' i).2 = NX at *
      generalize hhk : s.h i = HK at *
      clear hw hy hnx hhk
      have HELN : Hid (es'.length = i) := by
        have := HO.out.1.2.read.len
        simp only [List.length_take] at this
        unfold Hid; omega
      have tq : wr.cell? ⟨T, 0, none⟩ = some (.slice an' i cn') := blk_cell HO.out.1.1 0 _ rfl
      have UQ : Hid (Below wr.heap.size wr wr.drew) := up_dr (Below.refl _ _)
      have nT : ¬ T = w.heap.size := by have := HTT.out.2; omega
      have nT2 : ¬ w.heap.size = T := fun q => nT q.symm
      have HBW : Hid (b < w.heap.size) := by
        obtain ⟨b', o', _, _, e', _, _, q0, _⟩ := HV.out.node i hlt
        simp only [Option.some.injEq, Addr.mk.injEq] at e'
        have := World.block_lt_of_cell? w _ q0
        simp only at this
        unfold Hid; omega
      have nB : ¬ T = b := by have := HTT.out.2; have := HBW.out; omega
      have nB2 : ¬ b = T := fun q => nB q.symm
      have HC2 : Hid (Calls Try.prog 27 #[.slice ai HK ci] wr.drew fun e w2 => ∃ a2 c2, e = .returned (.slice a2 HK c2) ∧ w2.cell? ⟨T, 0, none⟩ = some (.slice an' i cn') ∧ w2.cell? ⟨w.heap.size, 0, none⟩ = some (.slice (some ⟨b, off, none⟩) s.nodes.length cN) ∧ w2.cell? ⟨b, off + i * 5, none⟩ = some (.string y.key) ∧ w2.cell? ⟨b, off + i * 5 + 1, none⟩ = some (.int .i64 y.seq) ∧ w2.cell? ⟨b, off + i * 5 + 2, none⟩ = some (.int .i64 y.kind) ∧ w2.cell? ⟨b, off + i * 5 + 3, none⟩ = some (.string y.val) ∧ w2.cell? ⟨b, off + i * 5 + 4, none⟩ = some (.slice ai HK ci) ∧ Hid (OwnR w2 wr.heap.size 3 1 (.slice a2 HK c2) (NX.map irow) ∧ Below wr.heap.size wr w2)) := by
        have hc := copyInts_any NX (.slice ai HK ci) wr.drew (HNR.out _ UQ.out) HNL.out.1
        rw [HNL.out.2] at hc
        refine hc.mono ?_
        rintro e w2 ⟨a2, c2, rfl, ho, hu⟩
        have hb := up_trans UQ.out hu.out
        have lt : ∀ {bb : Addr} {q : Value}, wr.cell? bb = some q → w2.cell? bb = some q := fun hq => (hb.cell (World.block_lt_of_cell? wr _ hq)).trans hq
        exact ⟨a2, c2, rfl, lt tq, lt p0, lt y0, lt y1, lt y2, lt y3, lt y4, ho.out.mono UQ.out.size, hb⟩
      have HA1 : Hid (∀ (w' : World) (o : Obj), Below wr.heap.size wr w' → OwnR (w'.alloc o) w.heap.size 62 5 (.slice an' i cn') (es'.map nrow)) := fun w' o hb => ((HO.out.1.up hb).up (up_alloc _ o)).2.nodes
      have HA2 : Hid (∀ (w' : World) a2 c2, Rws 5 (w'.alloc (.cells #[.string y.key, .int .i64 y.seq, .int .i64 y.kind, .string y.val, .slice a2 HK c2] 62)) (.slice (some ⟨w'.heap.size, 0, none⟩) 1 1) [nrow (y, .slice a2 HK c2)]) := by
        intro w' a2 c2
        exact Rws.made (sz := 5) w' 62 [nrow (y, .slice a2 HK c2)] (by simp [nrow, enRow]) (by simp [maxLen])
      have HA3 : Hid (∀ a2 c2, ∀ cs ∈ [nrow (y, Value.slice a2 HK c2)], ∀ u ∈ cs, u.oneCell' = true) := fun a2 c2 => nrow_one (w := w) y a2 HK c2
      have HA4 : Hid (((es'.map nrow).length + [nrow (y, Value.slice none 0 0)].length + ((es'.map nrow).length + [nrow (y, Value.slice none 0 0)].length) / 4 + 192) * 72 ≤ 281474976710656 ∧ (es'.map nrow).length + [nrow (y, Value.slice none 0 0)].length ≤ maxLen) := by
        have := HELN.out
        unfold Hid maxLen; simp only [List.length_map, List.length_cons, List.length_nil]; omega
      have HA5 : Hid (∀ (w' : World) (o : Obj), Below wr.heap.size wr w' → w.heap.size ≤ (w'.alloc o).heap.size) := fun w' o hb => Nat.le_trans HO.out.2.1.size (Nat.le_trans hb.size (up_alloc w' o).size)
      have HG : Hid (∀ (w' w6 : World) (o : Obj) (v6 : Value) (a2 : Option Addr) (c2 : Nat), OwnR w' wr.heap.size 3 1 (.slice a2 HK c2) (NX.map irow) ∧ Below wr.heap.size wr w' → (w'.alloc o).grownBy w6 (Value.ownBlock (.slice an' i cn')) → OwnR w6 w.heap.size 62 5 v6 (es'.map nrow ++ [nrow (y, .slice a2 HK c2)]) →
          ∃ a6 c6, v6 = .slice a6 (i + 1) c6 ∧ w6.cell? ⟨T, 0, none⟩ = some (.slice an' i cn') ∧ w6.frozen? ⟨T, 0, none⟩ = false ∧ w6.cell? ⟨w.heap.size, 0, none⟩ = some (.slice (some ⟨b, off, none⟩) s.nodes.length cN) ∧ w6.cell? ⟨b, off + i * 5, none⟩ = some (.string y.key) ∧ w6.cell? ⟨b, off + i * 5 + 1, none⟩ = some (.int .i64 y.seq) ∧ w6.cell? ⟨b, off + i * 5 + 2, none⟩ = some (.int .i64 y.kind) ∧ w6.cell? ⟨b, off + i * 5 + 3, none⟩ = some (.string y.val) ∧ w6.cell? ⟨b, off + i * 5 + 4, none⟩ = some (.slice ai HK ci) ∧ Hid (∃ es2, OpenK (w6.setCell ⟨T, 0, none⟩ (.slice a6 (i + 1) c6)) w.heap.size T 62 30 (.slice a6 (i + 1) c6) (.slice ah HL ch) ⟨s.nodes.take (i + 1), s.head⟩ es2 ∧ Below w.heap.size w (w6.setCell ⟨T, 0, none⟩ (.slice a6 (i + 1) c6)) ∧ (w6.setCell ⟨T, 0, none⟩ (.slice a6 (i + 1) c6)).heap[w.heap.size]? = some (.cells #[.slice (some ⟨b, off, none⟩) s.nodes.length cN, .slice aH HL cH] 25) ∧ (w6.setCell ⟨T, 0, none⟩ (.slice a6 (i + 1) c6)).heap[w.heap.size + 1]? = some (.cells #[.slice none 0 0, .slice none 0 0] 30))) := by
        intro w' w6 o v6 a2 c2 hs hg ho6
        obtain ⟨a6, c6, e6, _, _⟩ := (Rws.own ho6).len
        simp only [List.length_append, List.length_map, List.length_cons, List.length_nil] at e6
        rw [HELN.out] at e6
        subst e6
        have uo := up_alloc w' o
        have hsz : w.heap.size ≤ wr.heap.size := HO.out.2.1.size
        have O3 := (HO.out.1.up hs.2).up uo
        have z := O3.2.addRow O3.1 (by decide) (by decide) (by decide) (y := y) (nx := NX) ((hs.1.mono hsz).up uo) (HO.out.1.2.apart_new hs.1) hg ho6
        have hblk : ∀ (bb : Addr) (q : Value), wr.cell? bb = some q → bb.block < w.heap.size → w6.cell? bb = some q := by
          intro bb q hq hlt2
          have h1 := ((up_trans hs.2 uo).cell (World.block_lt_of_cell? wr _ hq)).trans hq
          refine hg.cell h1 ?_
          intro e
          have := (O3.2.nodes.2.lt _ e.symm).1
          omega
        have hown : ∀ cs B (t2 : TypeId), wr.heap[B]? = some (.cells cs t2) → 62 ≠ t2 → B ≠ T → w6.heap[B]? = some (.cells cs t2) ∧ (w6.setCell ⟨T, 0, none⟩ (.slice a6 (i + 1) c6)).heap[B]? = some (.cells cs t2) := by
          intro cs B t2 hB ht hBT
          have k1 := blk_up (blk_up hB hs.2) uo
          have n2 : some B ≠ Value.ownBlock (.slice an' i cn') := by
            rcases own_blk_ne O3.2.nodes.2 k1 ht with q | q
            · rw [q]; simp
            · exact fun e => q e.symm
          have k2 := blk_grown k1 hg n2
          exact ⟨k2, (Below.heap_setCell _ _ _ B (by simp only; exact hBT)).trans k2⟩
        have k25 := hown _ _ _ HO.out.2.2.1 (by decide) (by have := HTT.out.2; omega)
        have k30 := hown _ _ _ HO.out.2.2.2 (by decide) (by have := HTT.out.2; omega)
        refine ⟨a6, c6, rfl, blk_cell z.1 0 _ rfl, blk_frozen z.1 0, blk_cell k25.1 0 _ rfl, hblk _ _ y0 HBW.out, hblk _ _ y1 HBW.out, hblk _ _ y2 HBW.out, hblk _ _ y3 HBW.out, hblk _ _ y4 HBW.out, es' ++ [(y, .slice a2 HK c2)], ⟨z.2.1, ?_⟩, ?_, k25.2, k30.2⟩
        · rw [HTKH.out]
          exact z.2.2.1
        · exact (up_trans HO.out.2.1 (up_trans hs.2 uo)).trans (z.2.2.2 w.heap.size (Nat.le_refl _) HTT.out.1 (Nat.le_trans hsz (Nat.le_trans hs.2.size uo.size)))
      go_upto_region 5 with fail
      refine wp_region_held_drew (S := (fun w' => w'.cell? ⟨w.heap.size, 0, none⟩ = some (.slice (some ⟨b, off, none⟩) s.nodes.length cN) ∧ w'.cell? ⟨b, off + i * 5, none⟩ = some (.string y.key) ∧ w'.cell? ⟨b, off + i * 5 + 1, none⟩ = some (.int .i64 y.seq) ∧ w'.cell? ⟨b, off + i * 5 + 2, none⟩ = some (.int .i64 y.kind) ∧ w'.cell? ⟨b, off + i * 5 + 3, none⟩ = some (.string y.val) ∧ w'.cell? ⟨b, off + i * 5 + 4, none⟩ = some (.slice ai HK ci))) (by kernel_rfl) (by (try dsimp only); first | with_reducible exact ⟨v0, v1, v2, v3, v4, v5⟩ | with_reducible exact ⟨t0, t1, t2, t3, t4, t5⟩ | with_reducible exact ⟨m0 _, m1 _, m2 _, m3 _, m4 _, m5 _⟩ | (simp [go_sem, p0, y0, y1, y2, y3, y4]; done) | (simp [go_sem, t0, t1, t2, t3, t4, t5, nT, nT2, nB, nB2]; done)) (fun hHeld => ?_)
      refine wpAnyH_take (i := 0) (v := ?_) rfl (by kernel_rfl) (by kernel_rfl) (by kernel_rfl) (fun _ _ _ h => h) (Or.inl ⟨by kernel_rfl, ?_⟩) (by assumption) ?_
      rotate_left
      focus (intro w hSw; (try dsimp only at hSw); go_simp; (try with_reducible rfl); done)
      try simp only [Act.put, List.getElem_toArray, List.getElem_cons_zero, List.getElem_cons_succ, List.setIfInBounds_toArray, List.set_cons_zero, List.set_cons_succ]
      refine wpAnyH_take (i := 2) (v := ?_) rfl (by kernel_rfl) (by kernel_rfl) (by kernel_rfl) (fun _ _ _ h => h) (Or.inl ⟨by kernel_rfl, ?_⟩) (by assumption) ?_
      rotate_left
      focus (intro w hSw; (try dsimp only at hSw); go_simp; (try with_reducible rfl); done)
      try simp only [Act.put, List.getElem_toArray, List.getElem_cons_zero, List.getElem_cons_succ, List.setIfInBounds_toArray, List.set_cons_zero, List.set_cons_succ]
      refine wpAnyH_take (i := 4) (v := ?_) rfl (by kernel_rfl) (by kernel_rfl) (by kernel_rfl) (fun _ _ _ h => h) (Or.inl ⟨by kernel_rfl, ?_⟩) (by assumption) ?_
      rotate_left
      focus (intro w hSw; (try dsimp only at hSw); go_simp; (try with_reducible rfl); done)
      try simp only [Act.put, List.getElem_toArray, List.getElem_cons_zero, List.getElem_cons_succ, List.setIfInBounds_toArray, List.set_cons_zero, List.set_cons_succ]
      refine wpAnyH_take (i := 8) (v := ?_) rfl (by kernel_rfl) (by kernel_rfl) (by kernel_rfl) (fun _ _ _ h => h) (Or.inl ⟨by kernel_rfl, ?_⟩) (by assumption) ?_
      rotate_left
      focus (intro w hSw; (try dsimp only at hSw); go_simp; (try with_reducible rfl); done)
      try simp only [Act.put, List.getElem_toArray, List.getElem_cons_zero, List.getElem_cons_succ, List.setIfInBounds_toArray, List.set_cons_zero, List.set_cons_succ]
      refine wpAnyH_take (i := 10) (v := ?_) rfl (by kernel_rfl) (by kernel_rfl) (by kernel_rfl) (fun _ _ _ h => h) (Or.inl ⟨by kernel_rfl, ?_⟩) (by assumption) ?_
      rotate_left
      focus (intro w hSw; (try dsimp only at hSw); go_simp; (try with_reducible rfl); done)
      try simp only [Act.put, List.getElem_toArray, List.getElem_cons_zero, List.getElem_cons_succ, List.setIfInBounds_toArray, List.set_cons_zero, List.set_cons_succ]
      refine wpAnyH_take (i := 3) (v := ?_) rfl (by kernel_rfl) (by kernel_rfl) (by kernel_rfl) (fun _ _ _ h => h) (Or.inl ⟨by kernel_rfl, ?_⟩) (by assumption) ?_
      rotate_left
      focus (intro w hSw; (try dsimp only at hSw); go_simp; (try with_reducible rfl); done)
      try simp only [Act.put, List.getElem_toArray, List.getElem_cons_zero, List.getElem_cons_succ, List.setIfInBounds_toArray, List.set_cons_zero, List.set_cons_succ]
      refine wpAnyH_take (i := 9) (v := ?_) rfl (by kernel_rfl) (by kernel_rfl) (by kernel_rfl) (fun _ _ _ h => h) (Or.inl ⟨by kernel_rfl, ?_⟩) (by assumption) ?_
      rotate_left
      focus (intro w hSw; (try dsimp only at hSw); go_simp; (try with_reducible rfl); done)
      try simp only [Act.put, List.getElem_toArray, List.getElem_cons_zero, List.getElem_cons_succ, List.setIfInBounds_toArray, List.set_cons_zero, List.set_cons_succ]
      refine wpAnyH_take (i := 5) (v := ?_) rfl (by kernel_rfl) (by kernel_rfl) (by kernel_rfl) (fun _ _ _ h => h) (Or.inl ⟨by kernel_rfl, ?_⟩) (by assumption) ?_
      rotate_left
      focus (intro w hSw; (try dsimp only at hSw); go_simp; (try with_reducible rfl); done)
      try simp only [Act.put, List.getElem_toArray, List.getElem_cons_zero, List.getElem_cons_succ, List.setIfInBounds_toArray, List.set_cons_zero, List.set_cons_succ]
      refine wpAnyH_take (i := 11) (v := ?_) rfl (by kernel_rfl) (by kernel_rfl) (by kernel_rfl) (fun _ _ _ h => h) (Or.inl ⟨by kernel_rfl, ?_⟩) (by assumption) ?_
      rotate_left
      focus (intro w hSw; (try dsimp only at hSw); go_simp; (try with_reducible rfl); done)
      try simp only [Act.put, List.getElem_toArray, List.getElem_cons_zero, List.getElem_cons_succ, List.setIfInBounds_toArray, List.set_cons_zero, List.set_cons_succ]
      refine wpAnyH_take (i := 6) (v := ?_) rfl (by kernel_rfl) (by kernel_rfl) (by kernel_rfl) (fun _ _ _ h => h) (Or.inl ⟨by kernel_rfl, ?_⟩) (by assumption) ?_
      rotate_left
      focus (intro w hSw; (try dsimp only at hSw); go_simp; (try with_reducible rfl); done)
      try simp only [Act.put, List.getElem_toArray, List.getElem_cons_zero, List.getElem_cons_succ, List.setIfInBounds_toArray, List.set_cons_zero, List.set_cons_succ]
      refine wpAnyH_take (i := 12) (v := ?_) rfl (by kernel_rfl) (by kernel_rfl) (by kernel_rfl) (fun _ _ _ h => h) (Or.inl ⟨by kernel_rfl, ?_⟩) (by assumption) ?_
      rotate_left
      focus (intro w hSw; (try dsimp only at hSw); go_simp; (try with_reducible rfl); done)
      try simp only [Act.put, List.getElem_toArray, List.getElem_cons_zero, List.getElem_cons_succ, List.setIfInBounds_toArray, List.set_cons_zero, List.set_cons_succ]
      refine wpAnyH_take (i := 7) (v := ?_) rfl (by kernel_rfl) (by kernel_rfl) (by kernel_rfl) (fun _ _ _ h => h) (Or.inl ⟨by kernel_rfl, ?_⟩) (by assumption) ?_
      rotate_left
      focus (intro w hSw; (try dsimp only at hSw); go_simp; (try with_reducible rfl); done)
      try simp only [Act.put, List.getElem_toArray, List.getElem_cons_zero, List.getElem_cons_succ, List.setIfInBounds_toArray, List.set_cons_zero, List.set_cons_succ]
      refine wpAnyH_take (i := 13) (v := ?_) rfl (by kernel_rfl) (by kernel_rfl) (by kernel_rfl) (fun _ _ _ h => h) (Or.inl ⟨by kernel_rfl, ?_⟩) (by assumption) ?_
      rotate_left
      focus (intro w hSw; (try dsimp only at hSw); go_simp; (try with_reducible rfl); done)
      try simp only [Act.put, List.getElem_toArray, List.getElem_cons_zero, List.getElem_cons_succ, List.setIfInBounds_toArray, List.set_cons_zero, List.set_cons_succ]
      refine wpAnyH_ready (rs := [1, 14]) (by kernel_rfl) (by simp) ?_
      refine AllReadyH.cons rfl (fun K hK => ?_) (AllReadyH.cons rfl (fun K hK => ?_) AllReadyH.nil)
      · skip
        go_simp
        refine hK.out _ _ (by (try dsimp only); first | with_reducible exact ⟨v0, v1, v2, v3, v4, v5⟩ | with_reducible exact ⟨t0, t1, t2, t3, t4, t5⟩ | with_reducible exact ⟨m0 _, m1 _, m2 _, m3 _, m4 _, m5 _⟩ | (simp [go_sem, p0, y0, y1, y2, y3, y4]; done) | (simp [go_sem, t0, t1, t2, t3, t4, t5, nT, nT2, nB, nB2]; done)) (fun hHeld => ?_)
        clear hK K
        try simp only [Act.put, List.getElem_toArray, List.getElem_cons_zero, List.getElem_cons_succ, List.setIfInBounds_toArray, List.set_cons_zero, List.set_cons_succ]
        refine wpAnyH_ready (rs := [14]) (by kernel_rfl) (by simp) ?_
        refine AllReadyH.cons rfl (fun K hK => ?_) AllReadyH.nil
        go_simp
        refine HC2.out.mono ?_
        rintro e w2 ⟨a2, c2, rfl, vt, v0, v1, v2, v3, v4, v5, hs⟩
        have m0 := fun o => cell_al o v0
        have m1 := fun o => cell_al o v1
        have m2 := fun o => cell_al o v2
        have m3 := fun o => cell_al o v3
        have m4 := fun o => cell_al o v4
        have m5 := fun o => cell_al o v5
        have mt := fun o => cell_al o vt
        go_wp2_with fail
        refine hK.out _ _ (by (try dsimp only); first | with_reducible exact ⟨v0, v1, v2, v3, v4, v5⟩ | with_reducible exact ⟨t0, t1, t2, t3, t4, t5⟩ | with_reducible exact ⟨m0 _, m1 _, m2 _, m3 _, m4 _, m5 _⟩ | (simp [go_sem, p0, y0, y1, y2, y3, y4]; done) | (simp [go_sem, t0, t1, t2, t3, t4, t5, nT, nT2, nB, nB2]; done)) (fun hHeld => ?_)
        clear hK K
        try simp only [Act.put, List.getElem_toArray, List.getElem_cons_zero, List.getElem_cons_succ, List.setIfInBounds_toArray, List.set_cons_zero, List.set_cons_succ]
        refine wpAnyH_take (i := 15) (v := ?_) rfl (by kernel_rfl) (by kernel_rfl) (by kernel_rfl) (fun _ _ _ h => h) (Or.inl ⟨by kernel_rfl, ?_⟩) (by assumption) ?_
        rotate_left
        focus (intro w hSw; (try dsimp only at hSw); go_simp; (try with_reducible rfl); done)
        try simp only [Act.put, List.getElem_toArray, List.getElem_cons_zero, List.getElem_cons_succ, List.setIfInBounds_toArray, List.set_cons_zero, List.set_cons_succ]
        refine wpAnyH_ready (rs := [16]) (by kernel_rfl) (by simp) ?_
        refine AllReadyH.cons rfl (fun K hK => ?_) AllReadyH.nil
        go_simp
        refine hK.out _ _ (by (try dsimp only); first | with_reducible exact ⟨v0, v1, v2, v3, v4, v5⟩ | with_reducible exact ⟨t0, t1, t2, t3, t4, t5⟩ | with_reducible exact ⟨m0 _, m1 _, m2 _, m3 _, m4 _, m5 _⟩ | (simp [go_sem, p0, y0, y1, y2, y3, y4]; done) | (simp [go_sem, t0, t1, t2, t3, t4, t5, nT, nT2, nB, nB2]; done)) (fun hHeld => ?_)
        clear hK K
        try simp only [Act.put, List.getElem_toArray, List.getElem_cons_zero, List.getElem_cons_succ, List.setIfInBounds_toArray, List.set_cons_zero, List.set_cons_succ]
        refine wpAnyH_ready (rs := [17]) (by kernel_rfl) (by simp) ?_
        refine AllReadyH.cons rfl (fun K hK => ?_) AllReadyH.nil
        refine step_append_rows _ rfl (.tmp 17) (.tmp 32) 28 62 _ 5 72 rfl Try.underlying28 Try.info62 rfl (by decide) w.heap.size (.slice an' i cn') (es'.map nrow) rfl (HA1.out _ _ hs.out.2) _ [nrow (y, .slice a2 HK c2)] rfl (HA2.out _ _ _) (HA3.out _ _) HA4.out.1 HA4.out.2 (HA5.out _ _ hs.out.2) ?_
        intro v6 w6 o6 g6
        obtain ⟨a6, c6, rfl, tt, tf, t0, t1, t2, t3, t4, t5, hz⟩ := HG.out _ _ _ _ _ _ hs.out g6 o6
        refine hK.out _ _ (by (try dsimp only); first | with_reducible exact ⟨v0, v1, v2, v3, v4, v5⟩ | with_reducible exact ⟨t0, t1, t2, t3, t4, t5⟩ | with_reducible exact ⟨m0 _, m1 _, m2 _, m3 _, m4 _, m5 _⟩ | (simp [go_sem, p0, y0, y1, y2, y3, y4]; done) | (simp [go_sem, t0, t1, t2, t3, t4, t5, nT, nT2, nB, nB2]; done)) (fun hHeld => ?_)
        clear hK K
        try simp only [Act.put, List.getElem_toArray, List.getElem_cons_zero, List.getElem_cons_succ, List.setIfInBounds_toArray, List.set_cons_zero, List.set_cons_succ]
        refine wpAnyH_take (i := 18) (v := ?_) rfl (by kernel_rfl) (by kernel_rfl) (by kernel_rfl) (fun _ _ _ h => h) (Or.inl ⟨by kernel_rfl, ?_⟩) (by assumption) ?_
        rotate_left
        focus (intro w hSw; (try dsimp only at hSw); go_simp; (try with_reducible rfl); done)
        try simp only [Act.put, List.getElem_toArray, List.getElem_cons_zero, List.getElem_cons_succ, List.setIfInBounds_toArray, List.set_cons_zero, List.set_cons_succ]
        refine wpAnyH_ready (rs := [19]) (by kernel_rfl) (by simp) ?_
        refine AllReadyH.cons rfl (fun K hK => ?_) AllReadyH.nil
        go_simp
        refine hK.out _ _ (by (try dsimp only); first | with_reducible exact ⟨v0, v1, v2, v3, v4, v5⟩ | with_reducible exact ⟨t0, t1, t2, t3, t4, t5⟩ | with_reducible exact ⟨m0 _, m1 _, m2 _, m3 _, m4 _, m5 _⟩ | (simp [go_sem, p0, y0, y1, y2, y3, y4]; done) | (simp [go_sem, t0, t1, t2, t3, t4, t5, nT, nT2, nB, nB2]; done)) (fun hHeld => ?_)
        clear hK K
        try simp only [Act.put, List.getElem_toArray, List.getElem_cons_zero, List.getElem_cons_succ, List.setIfInBounds_toArray, List.set_cons_zero, List.set_cons_succ]
        refine wpAnyH_done (by kernel_rfl) ?_ _
        clear v0 v1 v2 v3 v4 v5 vt m0 m1 m2 m3 m4 m5 mt t0 t1 t2 t3 t4 t5 tt tf hs g6 o6 tq y0 y1 y2 y3 y4 p0
        obtain ⟨es2, hz2⟩ := hz.out
        go_wp2_with fail
        exact ⟨⟨i + 1, a6, c6, es2, by omega, by go_num, hz2⟩, by simp [intOf]; omega⟩
      · skip
        go_simp
        refine HC2.out.mono ?_
        rintro e w2 ⟨a2, c2, rfl, vt, v0, v1, v2, v3, v4, v5, hs⟩
        have m0 := fun o => cell_al o v0
        have m1 := fun o => cell_al o v1
        have m2 := fun o => cell_al o v2
        have m3 := fun o => cell_al o v3
        have m4 := fun o => cell_al o v4
        have m5 := fun o => cell_al o v5
        have mt := fun o => cell_al o vt
        go_wp2_with fail
        refine hK.out _ _ (by (try dsimp only); first | with_reducible exact ⟨v0, v1, v2, v3, v4, v5⟩ | with_reducible exact ⟨t0, t1, t2, t3, t4, t5⟩ | with_reducible exact ⟨m0 _, m1 _, m2 _, m3 _, m4 _, m5 _⟩ | (simp [go_sem, p0, y0, y1, y2, y3, y4]; done) | (simp [go_sem, t0, t1, t2, t3, t4, t5, nT, nT2, nB, nB2]; done)) (fun hHeld => ?_)
        clear hK K
        try simp only [Act.put, List.getElem_toArray, List.getElem_cons_zero, List.getElem_cons_succ, List.setIfInBounds_toArray, List.set_cons_zero, List.set_cons_succ]
        refine wpAnyH_take (i := 15) (v := ?_) rfl (by kernel_rfl) (by kernel_rfl) (by kernel_rfl) (fun _ _ _ h => h) (Or.inl ⟨by kernel_rfl, ?_⟩) (by assumption) ?_
        rotate_left
        focus (intro w hSw; (try dsimp only at hSw); go_simp; (try with_reducible rfl); done)
        try simp only [Act.put, List.getElem_toArray, List.getElem_cons_zero, List.getElem_cons_succ, List.setIfInBounds_toArray, List.set_cons_zero, List.set_cons_succ]
        refine wpAnyH_ready (rs := [1, 16]) (by kernel_rfl) (by simp) ?_
        refine AllReadyH.cons rfl (fun K hK => ?_) (AllReadyH.cons rfl (fun K hK => ?_) AllReadyH.nil)
        · skip
          go_simp
          refine hK.out _ _ (by (try dsimp only); first | with_reducible exact ⟨v0, v1, v2, v3, v4, v5⟩ | with_reducible exact ⟨t0, t1, t2, t3, t4, t5⟩ | with_reducible exact ⟨m0 _, m1 _, m2 _, m3 _, m4 _, m5 _⟩ | (simp [go_sem, p0, y0, y1, y2, y3, y4]; done) | (simp [go_sem, t0, t1, t2, t3, t4, t5, nT, nT2, nB, nB2]; done)) (fun hHeld => ?_)
          clear hK K
          try simp only [Act.put, List.getElem_toArray, List.getElem_cons_zero, List.getElem_cons_succ, List.setIfInBounds_toArray, List.set_cons_zero, List.set_cons_succ]
          refine wpAnyH_ready (rs := [16]) (by kernel_rfl) (by simp) ?_
          refine AllReadyH.cons rfl (fun K hK => ?_) AllReadyH.nil
          go_simp
          refine hK.out _ _ (by (try dsimp only); first | with_reducible exact ⟨v0, v1, v2, v3, v4, v5⟩ | with_reducible exact ⟨t0, t1, t2, t3, t4, t5⟩ | with_reducible exact ⟨m0 _, m1 _, m2 _, m3 _, m4 _, m5 _⟩ | (simp [go_sem, p0, y0, y1, y2, y3, y4]; done) | (simp [go_sem, t0, t1, t2, t3, t4, t5, nT, nT2, nB, nB2]; done)) (fun hHeld => ?_)
          clear hK K
          try simp only [Act.put, List.getElem_toArray, List.getElem_cons_zero, List.getElem_cons_succ, List.setIfInBounds_toArray, List.set_cons_zero, List.set_cons_succ]
          refine wpAnyH_ready (rs := [17]) (by kernel_rfl) (by simp) ?_
          refine AllReadyH.cons rfl (fun K hK => ?_) AllReadyH.nil
          refine step_append_rows _ rfl (.tmp 17) (.tmp 32) 28 62 _ 5 72 rfl Try.underlying28 Try.info62 rfl (by decide) w.heap.size (.slice an' i cn') (es'.map nrow) rfl (HA1.out _ _ hs.out.2) _ [nrow (y, .slice a2 HK c2)] rfl (HA2.out _ _ _) (HA3.out _ _) HA4.out.1 HA4.out.2 (HA5.out _ _ hs.out.2) ?_
          intro v6 w6 o6 g6
          obtain ⟨a6, c6, rfl, tt, tf, t0, t1, t2, t3, t4, t5, hz⟩ := HG.out _ _ _ _ _ _ hs.out g6 o6
          refine hK.out _ _ (by (try dsimp only); first | with_reducible exact ⟨v0, v1, v2, v3, v4, v5⟩ | with_reducible exact ⟨t0, t1, t2, t3, t4, t5⟩ | with_reducible exact ⟨m0 _, m1 _, m2 _, m3 _, m4 _, m5 _⟩ | (simp [go_sem, p0, y0, y1, y2, y3, y4]; done) | (simp [go_sem, t0, t1, t2, t3, t4, t5, nT, nT2, nB, nB2]; done)) (fun hHeld => ?_)
          clear hK K
          try simp only [Act.put, List.getElem_toArray, List.getElem_cons_zero, List.getElem_cons_succ, List.setIfInBounds_toArray, List.set_cons_zero, List.set_cons_succ]
          refine wpAnyH_take (i := 18) (v := ?_) rfl (by kernel_rfl) (by kernel_rfl) (by kernel_rfl) (fun _ _ _ h => h) (Or.inl ⟨by kernel_rfl, ?_⟩) (by assumption) ?_
          rotate_left
          focus (intro w hSw; (try dsimp only at hSw); go_simp; (try with_reducible rfl); done)
          try simp only [Act.put, List.getElem_toArray, List.getElem_cons_zero, List.getElem_cons_succ, List.setIfInBounds_toArray, List.set_cons_zero, List.set_cons_succ]
          refine wpAnyH_ready (rs := [19]) (by kernel_rfl) (by simp) ?_
          refine AllReadyH.cons rfl (fun K hK => ?_) AllReadyH.nil
          go_simp
          refine hK.out _ _ (by (try dsimp only); first | with_reducible exact ⟨v0, v1, v2, v3, v4, v5⟩ | with_reducible exact ⟨t0, t1, t2, t3, t4, t5⟩ | with_reducible exact ⟨m0 _, m1 _, m2 _, m3 _, m4 _, m5 _⟩ | (simp [go_sem, p0, y0, y1, y2, y3, y4]; done) | (simp [go_sem, t0, t1, t2, t3, t4, t5, nT, nT2, nB, nB2]; done)) (fun hHeld => ?_)
          clear hK K
          try simp only [Act.put, List.getElem_toArray, List.getElem_cons_zero, List.getElem_cons_succ, List.setIfInBounds_toArray, List.set_cons_zero, List.set_cons_succ]
          refine wpAnyH_done (by kernel_rfl) ?_ _
          clear v0 v1 v2 v3 v4 v5 vt m0 m1 m2 m3 m4 m5 mt t0 t1 t2 t3 t4 t5 tt tf hs g6 o6 tq y0 y1 y2 y3 y4 p0
          obtain ⟨es2, hz2⟩ := hz.out
          go_wp2_with fail
          exact ⟨⟨i + 1, a6, c6, es2, by omega, by go_num, hz2⟩, by simp [intOf]; omega⟩
        · skip
          go_simp
          refine hK.out _ _ (by (try dsimp only); first | with_reducible exact ⟨v0, v1, v2, v3, v4, v5⟩ | with_reducible exact ⟨t0, t1, t2, t3, t4, t5⟩ | with_reducible exact ⟨m0 _, m1 _, m2 _, m3 _, m4 _, m5 _⟩ | (simp [go_sem, p0, y0, y1, y2, y3, y4]; done) | (simp [go_sem, t0, t1, t2, t3, t4, t5, nT, nT2, nB, nB2]; done)) (fun hHeld => ?_)
          clear hK K
          try simp only [Act.put, List.getElem_toArray, List.getElem_cons_zero, List.getElem_cons_succ, List.setIfInBounds_toArray, List.set_cons_zero, List.set_cons_succ]
          refine wpAnyH_ready (rs := [1]) (by kernel_rfl) (by simp) ?_
          refine AllReadyH.cons rfl (fun K hK => ?_) AllReadyH.nil
          go_simp
          refine hK.out _ _ (by (try dsimp only); first | with_reducible exact ⟨v0, v1, v2, v3, v4, v5⟩ | with_reducible exact ⟨t0, t1, t2, t3, t4, t5⟩ | with_reducible exact ⟨m0 _, m1 _, m2 _, m3 _, m4 _, m5 _⟩ | (simp [go_sem, p0, y0, y1, y2, y3, y4]; done) | (simp [go_sem, t0, t1, t2, t3, t4, t5, nT, nT2, nB, nB2]; done)) (fun hHeld => ?_)
          clear hK K
          try simp only [Act.put, List.getElem_toArray, List.getElem_cons_zero, List.getElem_cons_succ, List.setIfInBounds_toArray, List.set_cons_zero, List.set_cons_succ]
          refine wpAnyH_ready (rs := [17]) (by kernel_rfl) (by simp) ?_
          refine AllReadyH.cons rfl (fun K hK => ?_) AllReadyH.nil
          refine step_append_rows _ rfl (.tmp 17) (.tmp 32) 28 62 _ 5 72 rfl Try.underlying28 Try.info62 rfl (by decide) w.heap.size (.slice an' i cn') (es'.map nrow) rfl (HA1.out _ _ hs.out.2) _ [nrow (y, .slice a2 HK c2)] rfl (HA2.out _ _ _) (HA3.out _ _) HA4.out.1 HA4.out.2 (HA5.out _ _ hs.out.2) ?_
          intro v6 w6 o6 g6
          obtain ⟨a6, c6, rfl, tt, tf, t0, t1, t2, t3, t4, t5, hz⟩ := HG.out _ _ _ _ _ _ hs.out g6 o6
          refine hK.out _ _ (by (try dsimp only); first | with_reducible exact ⟨v0, v1, v2, v3, v4, v5⟩ | with_reducible exact ⟨t0, t1, t2, t3, t4, t5⟩ | with_reducible exact ⟨m0 _, m1 _, m2 _, m3 _, m4 _, m5 _⟩ | (simp [go_sem, p0, y0, y1, y2, y3, y4]; done) | (simp [go_sem, t0, t1, t2, t3, t4, t5, nT, nT2, nB, nB2]; done)) (fun hHeld => ?_)
          clear hK K
          try simp only [Act.put, List.getElem_toArray, List.getElem_cons_zero, List.getElem_cons_succ, List.setIfInBounds_toArray, List.set_cons_zero, List.set_cons_succ]
          refine wpAnyH_take (i := 18) (v := ?_) rfl (by kernel_rfl) (by kernel_rfl) (by kernel_rfl) (fun _ _ _ h => h) (Or.inl ⟨by kernel_rfl, ?_⟩) (by assumption) ?_
          rotate_left
          focus (intro w hSw; (try dsimp only at hSw); go_simp; (try with_reducible rfl); done)
          try simp only [Act.put, List.getElem_toArray, List.getElem_cons_zero, List.getElem_cons_succ, List.setIfInBounds_toArray, List.set_cons_zero, List.set_cons_succ]
          refine wpAnyH_ready (rs := [19]) (by kernel_rfl) (by simp) ?_
          refine AllReadyH.cons rfl (fun K hK => ?_) AllReadyH.nil
          go_simp
          refine hK.out _ _ (by (try dsimp only); first | with_reducible exact ⟨v0, v1, v2, v3, v4, v5⟩ | with_reducible exact ⟨t0, t1, t2, t3, t4, t5⟩ | with_reducible exact ⟨m0 _, m1 _, m2 _, m3 _, m4 _, m5 _⟩ | (simp [go_sem, p0, y0, y1, y2, y3, y4]; done) | (simp [go_sem, t0, t1, t2, t3, t4, t5, nT, nT2, nB, nB2]; done)) (fun hHeld => ?_)
          clear hK K
          try simp only [Act.put, List.getElem_toArray, List.getElem_cons_zero, List.getElem_cons_succ, List.setIfInBounds_toArray, List.set_cons_zero, List.set_cons_succ]
          refine wpAnyH_done (by kernel_rfl) ?_ _
          clear v0 v1 v2 v3 v4 v5 vt m0 m1 m2 m3 m4 m5 mt t0 t1 t2 t3 t4 t5 tt tf hs g6 o6 tq y0 y1 y2 y3 y4 p0
          obtain ⟨es2, hz2⟩ := hz.out
          go_wp2_with fail
          exact ⟨⟨i + 1, a6, c6, es2, by omega, by go_num, hz2⟩, by simp [intOf]; omega⟩
    · obtain rfl : i = s.nodes.length := by omega
      have c0 : wr.cell? ⟨T, 0, none⟩ = some (.slice an' s.nodes.length cn') := blk_cell HO.out.1.1 0 _ rfl
      have c1 : wr.cell? ⟨T, 1, none⟩ = some (.slice ah HL ch) := blk_cell HO.out.1.1 1 _ rfl
      have d0 : wr.cell? ⟨w.heap.size + 1, 0, none⟩ = some (.slice none 0 0) := blk_cell HO.out.2.2.2 0 _ rfl
      have d1 : wr.cell? ⟨w.heap.size + 1, 1, none⟩ = some (.slice none 0 0) := blk_cell HO.out.2.2.2 1 _ rfl
      have f0 := fun k => blk_frozen HO.out.2.2.2 k
      go_wp2_with fail
      refine bodyPost_ret (results_st rfl (.inl rfl) _ _ rfl (set2_blk HO.out.2.2.2 (.slice an' s.nodes.length cn') (.slice ah HL ch))) rfl ?_
      have g2 := set2_grown wr (w.heap.size + 1) (.slice an' s.nodes.length cn') (.slice ah HL ch)
      refine ⟨_, _, rfl, ⟨es', ?_⟩, ?_⟩
      · have := HO.out.1.2.block HO.out.2.2.2 (by decide) (by decide) g2
        rw [List.take_length] at this
        exact this
      · exact HO.out.2.1.grown g2 HO.out.2.1.size (fun k hk => by injection hk with hk; rw [← hk]; omega)
end Go.Proofs.Ytmiokopnhkojoaa
