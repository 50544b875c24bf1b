/- Texts of layers 1 to 13, in this order. -/
import Derived.Test.YthiegmhplnbdlaaGreatG14
import Derived.Deep.RegionHeld3
import Derived.Deep.CutRange

namespace Go.Proofs.YthiegmhplnbdlaaGreat
open Go.RowKit
set_option linter.unusedVariables false
set_option linter.unusedSimpArgs false
theorem takeS_at (s : Sk) (i : Nat) (h : i < s.nodes.length) : (⟨s.nodes.take (i + 1), s.head⟩ : Sk) = (⟨s.nodes.take i, s.head⟩ : Sk).snoc (s.at' i).1 (s.at' i).2 := by
  have e : s.at' i = s.nodes[i] := by simp [Sk.at', List.getD, h]
  rw [e]
  simp only [Sk.snoc]
  rw [List.take_succ_eq_append_getElem h]
theorem Below.none {w w' : World} {r : Option Nat} (h : w.grownBy w' r) (hr : r = none) : Below w.heap.size w w' := (Below.refl _ _).grown h (Nat.le_refl _) (fun k hk => by rw [hr] at hk; cases hk)
theorem cell_al {w : World} (o : Obj) {a : Addr} {v : Value} (h : w.cell? a = some v) : (w.alloc o).cell? a = some v := ((up_alloc w o).cell (World.block_lt_of_cell? w a h)).trans h
set_option maxHeartbeats 4000000 in
set_option maxRecDepth 100000 in
theorem copiedS_any (s : Sk) (es : List (En × Value)) (vN vH : Value) (w : World) (h : SkE w vN vH s es) (hn : s.nodes.length ≤ 4096) (hh : s.head.length = 8) (h8 : ∀ k, s.h k ≤ 8) :
    Calls Tryz.prog 57 #[.agg #[vN, vH]] w fun e w' => ∃ vN' vH' es', e = .returned (.agg #[vN', vH']) ∧ Hid (OwnSk w' w.heap.size 124 vN' vH' s es') ∧ Hid (Below w.heap.size w w') := by
  obtain ⟨⟨aN, cN, rfl⟩, ⟨aH, cH, rfl⟩⟩ := h.form
  have HV : Hid (SkE w (.slice aN s.nodes.length cN) (.slice aH s.head.length cH) s es) := h
  have H8 : Hid (∀ k, s.h k ≤ 8) := h8
  have HHd : Hid (s.head.length = 8) := hh
  generalize hHL : s.head.length = HL at *
  clear h h8 hh hHL
  obtain ⟨wa, hwa⟩ : ∃ wa, wa = (w.alloc (.cells #[.slice aN s.nodes.length cN, .slice aH HL cH] 39)).alloc (.cells #[.slice none 0 0, .slice none 0 0] 39) := ⟨_, rfl⟩
  have HWA : Hid ((w.alloc (.cells #[.slice aN s.nodes.length cN, .slice aH HL cH] 39)).alloc (.cells #[.slice none 0 0, .slice none 0 0] 39) = wa) := hwa.symm
  have HUA : Hid (Below w.heap.size w wa) := by rw [hwa]; exact up_al (up_al (Below.refl _ _) _) _
  have HBA : Hid (wa.heap[w.heap.size]? = some (.cells #[.slice aN s.nodes.length cN, .slice aH HL cH] 39) ∧ wa.heap[w.heap.size + 1]? = some (.cells #[.slice none 0 0, .slice none 0 0] 39)) := by
    refine ⟨by rw [hwa]; exact blk_up (blk_new w _) (up_alloc _ _), ?_⟩
    have := blk_new (w.alloc (.cells #[.slice aN s.nodes.length cN, .slice aH HL cH] 39)) (.cells #[.slice none 0 0, .slice none 0 0] 39)
    rw [← hwa] at this
    have e : (w.alloc (.cells #[.slice aN s.nodes.length cN, .slice aH HL cH] 39)).heap.size = w.heap.size + 1 := by simp
    rw [e] at this
    exact this
  have HHR : Hid (Rws 1 wa (.slice aH HL cH) (s.head.map irow)) := (HV.out.up HUA.out).head
  have HC1 : Hid (((([] : List (List Value)).length + (s.head.map irow).length) + (([] : List (List Value)).length + (s.head.map irow).length) / 4 + 192) * 8 ≤ 281474976710656) := by
    have e : (s.head.map irow).length = 8 := by rw [List.length_map]; have := HHR.out.len; obtain ⟨_, _, e, _⟩ := this; simp only [Value.slice.injEq, List.length_map] at e; have := HHd.out; omega
    unfold Hid; rw [e]; simp
  have HC2 : Hid (([] : List (List Value)).length + (s.head.map irow).length ≤ maxLen) := by
    have e : (s.head.map irow).length = 8 := by rw [List.length_map]; have := HHR.out.len; obtain ⟨_, _, e, _⟩ := this; simp only [Value.slice.injEq, List.length_map] at e; have := HHd.out; omega
    unfold Hid maxLen; rw [e]; simp
  clear hwa
  go_enter Tryz.func57, Tryz.ntmps57
  go_upto_region 1 with fail
  rw [HWA.out]
  have p1 : wa.cell? ⟨w.heap.size, 1, none⟩ = some (.slice aH HL cH) := blk_cell HBA.out.1 1 _ rfl
  clear HWA
  go_wp2_with (at_builtin; refine wpList_append_rows _ rfl _ _ 37 3 _ 1 8 rfl Tryz.underlying37 Tryz.info3 rfl (by decide) wa.heap.size (.slice none 0 0) [] rfl (OwnR.nil _ _ _ _) (.slice aH HL cH) (s.head.map irow) rfl HHR.out (one_int _) HC1.out HC2.out (Nat.le_refl _) ?_)
  intro vh wh OH GH
  have OH' : OwnR wh wa.heap.size 3 1 vh (s.head.map irow) := OH
  obtain ⟨ah, ch, eh, _, _⟩ := (Rws.own OH').len
  rw [List.length_map] at eh
  subst eh
  clear OH
  have OH := OH'
  clear OH'
  have HUH : Hid (Below wa.heap.size wa wh) := Below.none GH rfl
  have HOH : Hid (OwnR wh wa.heap.size 3 1 (.slice ah s.head.length ch) (s.head.map irow)) := OH
  have HBH : Hid (wh.heap[w.heap.size]? = some (.cells #[.slice aN s.nodes.length cN, .slice aH HL cH] 39) ∧ wh.heap[w.heap.size + 1]? = some (.cells #[.slice none 0 0, .slice none 0 0] 39)) := ⟨blk_up HBA.out.1 HUH.out, blk_up HBA.out.2 HUH.out⟩
  generalize hHM : s.head.length = HM at *
  clear OH GH p1 HC1 HC2 HHR hHM HHd
  obtain ⟨wt, hwt⟩ : ∃ wt, wt = wh.alloc (.cells #[.slice none 0 0, .slice ah HM ch] 39) := ⟨_, rfl⟩
  have HWT : Hid (wh.alloc (.cells #[.slice none 0 0, .slice ah HM ch] 39) = wt) := hwt.symm
  have HST : Hid (OpenK wt w.heap.size wh.heap.size 124 39 (.slice none 0 0) (.slice ah HM ch) ⟨s.nodes.take 0, s.head⟩ [] ∧ Below w.heap.size w wt ∧ wt.heap[w.heap.size]? = some (.cells #[.slice aN s.nodes.length cN, .slice aH HL cH] 39) ∧ wt.heap[w.heap.size + 1]? = some (.cells #[.slice none 0 0, .slice none 0 0] 39)) := by
    have ut : Below wh.heap.size wh wt := by rw [hwt]; exact up_alloc _ _
    refine ⟨⟨by rw [hwt]; exact blk_new _ _, rfl, OwnR.nil _ _ _ _, (HOH.out.mono HUA.out.size).up ut, (fun k p hk => by simp at hk), by simp⟩, up_trans (up_trans HUA.out HUH.out) ut, blk_up HBH.out.1 ut, blk_up HBH.out.2 ut⟩
  have t0 : (wh.alloc (.cells #[.slice none 0 0, .slice ah HM ch] 39)).cell? ⟨w.heap.size, 0, none⟩ = some (.slice aN s.nodes.length cN) := by rw [HWT.out]; exact blk_cell HST.out.2.2.1 0 _ rfl
  have HTT : Hid (w.heap.size ≤ wh.heap.size ∧ w.heap.size + 1 < wh.heap.size) := by
    have := blk_lt HBH.out.2
    exact ⟨by omega, this⟩
  generalize hT : wh.heap.size = T at *
  clear hwt HUH HOH HBH HUA HBA
  go_wp2_with fail
  rw [HWT.out]
  clear HWT t0 hT
  go_loopw [13] (fun q wr => ∃ (i : Nat) (an' : Option Addr) (cn' : Nat) (es' : List (En × Value)), i ≤ s.nodes.length ∧ q = .int .i64 (i : Int) ∧ Hid (OpenK wr w.heap.size T 124 39 (.slice an' i cn') (.slice ah HM ch) ⟨s.nodes.take i, s.head⟩ es' ∧ Below w.heap.size w wr ∧ wr.heap[w.heap.size]? = some (.cells #[.slice aN s.nodes.length cN, .slice aH HL cH] 39) ∧ wr.heap[w.heap.size + 1]? = some (.cells #[.slice none 0 0, .slice none 0 0] 39))) (fun q _ => s.nodes.length - (intOf q).toNat)
  case atStart => exact ⟨0, none, 0, [], by omega, rfl, HST⟩
  case round =>
    clear HST
    obtain ⟨i, an', cn', es', hi, rfl, HO⟩ := hrel
    by_cases hlt : i < s.nodes.length
    · have hlt' : (i : Int) < (s.nodes.length : Int) := by omega
      have HTK := takeS_at s i hlt
      have HTKH : Hid ((⟨s.nodes.take (i + 1), s.head⟩ : Sk) = (⟨s.nodes.take i, s.head⟩ : Sk).snoc (s.at' i).1 (s.at' i).2) := HTK
      clear HTK
      obtain ⟨b, off, ai, ci, rfl, _, hw, y0, y1, y2, y3, y4⟩ := (HV.out.up HO.out.2.1).node i hlt
      have HNR : Hid (∀ X, Below wr.heap.size wr X → Rws 1 X (.slice ai (s.h i) ci) ((s.at' i).2.map irow)) := by
        intro X hX
        have := (HV.out.up (up_trans HO.out.2.1 hX)).way (i + 1) (by omega)
        rw [hw] at this
        exact this
      have HNL : Hid ((s.at' i).2.length ≤ 8 ∧ (s.at' i).2.length = s.h i) := ⟨H8.out i, rfl⟩
      generalize hy : (s.at' i).1 = y at *
      generalize hnx : (s.at' i).2 = NX at *
      generalize hhk : s.h i = HK at *
      clear hw hy hnx hhk
      obtain ⟨wq, hwq⟩ : ∃ wq, wq = wr.alloc (.cells #[.string y.key, .int .i64 y.seq, .int .i64 y.kind, .string y.val, .slice ai HK ci] 124) := ⟨_, rfl⟩
      have HWQ : Hid (wr.alloc (.cells #[.string y.key, .int .i64 y.seq, .int .i64 y.kind, .string y.val, .slice ai HK ci] 124) = wq) := hwq.symm
      have uq : Hid (Below wr.heap.size wr wq) := by rw [hwq]; exact up_alloc _ _
      have HBQ : Hid (wq.heap[wr.heap.size]? = some (.cells #[.string y.key, .int .i64 y.seq, .int .i64 y.kind, .string y.val, .slice ai HK ci] 124)) := by rw [hwq]; exact blk_new _ _
      have OQ : Hid (OpenK wq w.heap.size T 124 39 (.slice an' i cn') (.slice ah HM ch) ⟨s.nodes.take i, s.head⟩ es') := HO.out.1.up uq.out
      clear hwq
      go_upto_region 5 with fail
      rw [HWQ.out]
      clear HWQ y0 y1 y2 y3 y4
      have r0 : wq.cell? ⟨wr.heap.size, 0, none⟩ = some (.string y.key) := blk_cell HBQ.out 0 _ rfl
      have r1 : wq.cell? ⟨wr.heap.size, 1, none⟩ = some (.int .i64 y.seq) := blk_cell HBQ.out 1 _ rfl
      have r2 : wq.cell? ⟨wr.heap.size, 2, none⟩ = some (.int .i64 y.kind) := blk_cell HBQ.out 2 _ rfl
      have r3 : wq.cell? ⟨wr.heap.size, 3, none⟩ = some (.string y.val) := blk_cell HBQ.out 3 _ rfl
      have r4 : wq.cell? ⟨wr.heap.size, 4, none⟩ = some (.slice ai HK ci) := blk_cell HBQ.out 4 _ rfl
      have tq : wq.cell? ⟨T, 0, none⟩ = some (.slice an' i cn') := blk_cell OQ.out.1 0 _ rfl
      have UQ : Hid (Below wq.heap.size wq wq.drew) := up_dr (Below.refl _ _)
      have HNX1 : Hid (Rws 1 wq.drew (.slice ai HK ci) (NX.map irow)) := HNR.out _ (up_trans uq.out UQ.out)
      have HD1 : Hid (((([] : List (List Value)).length + (NX.map irow).length) + (([] : List (List Value)).length + (NX.map irow).length) / 4 + 192) * 8 ≤ 281474976710656) := by
        have := HNL.out.1
        unfold Hid; simp only [List.length_nil, List.length_map]; omega
      have HD2 : Hid (([] : List (List Value)).length + (NX.map irow).length ≤ maxLen) := by
        have := HNL.out.1
        unfold Hid maxLen; simp only [List.length_nil, List.length_map]; omega
      have HD3 : Hid (wq.heap.size ≤ wq.drew.heap.size) := UQ.out.size
      have HELN : Hid (es'.length = i) := by
        have := OQ.out.2.read.len
        simp only [List.length_take] at this
        unfold Hid; omega
      have HI1 : Hid (∀ (v2 : Value) (w2 : World), OwnR w2 wq.heap.size 3 1 v2 (([] : List (List Value)) ++ NX.map irow) → wq.drew.grownBy w2 (Value.ownBlock (.slice none 0 0)) → ∃ a2 c2, v2 = .slice a2 HK c2 ∧ w2.cell? ⟨T, 0, none⟩ = some (.slice an' i cn') ∧ w2.cell? ⟨wr.heap.size, 0, none⟩ = some (.string y.key) ∧ w2.cell? ⟨wr.heap.size, 1, none⟩ = some (.int .i64 y.seq) ∧ w2.cell? ⟨wr.heap.size, 2, none⟩ = some (.int .i64 y.kind) ∧ w2.cell? ⟨wr.heap.size, 3, none⟩ = some (.string y.val) ∧ w2.cell? ⟨wr.heap.size, 4, none⟩ = some (.slice ai HK ci) ∧ Hid (OwnR w2 wq.heap.size 3 1 (.slice a2 HK c2) (NX.map irow) ∧ Below wq.heap.size wq w2)) := by
        intro v2 w2 o2 g2
        obtain ⟨a2, c2, e2, _, _⟩ := (Rws.own o2).len
        simp only [List.nil_append, List.length_map] at e2 o2
        rw [HNL.out.2] at e2
        subst e2
        have u2 : Below wq.heap.size wq w2 := up_trans UQ.out (Below.none g2 rfl)
        have k0 := blk_up HBQ.out u2
        have k1 := OQ.out.up u2
        exact ⟨a2, c2, rfl, blk_cell k1.1 0 _ rfl, blk_cell k0 0 _ rfl, blk_cell k0 1 _ rfl, blk_cell k0 2 _ rfl, blk_cell k0 3 _ rfl, blk_cell k0 4 _ rfl, o2, u2⟩
      have HA1 : Hid (∀ (w' : World) (o : Obj), Below wq.heap.size wq w' → OwnR (w'.alloc o) w.heap.size 124 5 (.slice an' i cn') (es'.map nrow)) := fun w' o hb => ((OQ.out.up hb).up (up_alloc _ o)).2.nodes
      have HA2 : Hid (∀ (w' : World) a2 c2, Rws 5 (w'.alloc (.cells #[.string y.key, .int .i64 y.seq, .int .i64 y.kind, .string y.val, .slice a2 HK c2] 124)) (.slice (some ⟨w'.heap.size, 0, none⟩) 1 1) [nrow (y, .slice a2 HK c2)]) := by
        intro w' a2 c2
        exact Rws.made (sz := 5) w' 124 [nrow (y, .slice a2 HK c2)] (by simp [nrow, enRow]) (by simp [maxLen])
      have HA3 : Hid (∀ a2 c2, ∀ cs ∈ [nrow (y, Value.slice a2 HK c2)], ∀ u ∈ cs, u.oneCell' = true) := fun a2 c2 => nrow_one (w := w) y a2 HK c2
      have HA4 : Hid (((es'.map nrow).length + [nrow (y, Value.slice none 0 0)].length + ((es'.map nrow).length + [nrow (y, Value.slice none 0 0)].length) / 4 + 192) * 72 ≤ 281474976710656 ∧ (es'.map nrow).length + [nrow (y, Value.slice none 0 0)].length ≤ maxLen) := by
        have := HELN.out
        unfold Hid maxLen; simp only [List.length_map, List.length_cons, List.length_nil]; omega
      have HA5 : Hid (∀ (w' : World) (o : Obj), Below wq.heap.size wq w' → w.heap.size ≤ (w'.alloc o).heap.size) := fun w' o hb => Nat.le_trans HO.out.2.1.size (Nat.le_trans uq.out.size (Nat.le_trans hb.size (up_alloc w' o).size))
      have HG : Hid (∀ (w' w6 : World) (o : Obj) (v6 : Value) (a2 : Option Addr) (c2 : Nat), OwnR w' wq.heap.size 3 1 (.slice a2 HK c2) (NX.map irow) ∧ Below wq.heap.size wq w' → (w'.alloc o).grownBy w6 (Value.ownBlock (.slice an' i cn')) → OwnR w6 w.heap.size 124 5 v6 (es'.map nrow ++ [nrow (y, .slice a2 HK c2)]) →
          ∃ a6 c6, v6 = .slice a6 (i + 1) c6 ∧ w6.cell? ⟨T, 0, none⟩ = some (.slice an' i cn') ∧ w6.frozen? ⟨T, 0, none⟩ = false ∧ w6.cell? ⟨wr.heap.size, 0, none⟩ = some (.string y.key) ∧ w6.cell? ⟨wr.heap.size, 1, none⟩ = some (.int .i64 y.seq) ∧ w6.cell? ⟨wr.heap.size, 2, none⟩ = some (.int .i64 y.kind) ∧ w6.cell? ⟨wr.heap.size, 3, none⟩ = some (.string y.val) ∧ w6.cell? ⟨wr.heap.size, 4, none⟩ = some (.slice ai HK ci) ∧ Hid (∃ es2, OpenK (w6.setCell ⟨T, 0, none⟩ (.slice a6 (i + 1) c6)) w.heap.size T 124 39 (.slice a6 (i + 1) c6) (.slice ah HM ch) ⟨s.nodes.take (i + 1), s.head⟩ es2 ∧ Below w.heap.size w (w6.setCell ⟨T, 0, none⟩ (.slice a6 (i + 1) c6)) ∧ (w6.setCell ⟨T, 0, none⟩ (.slice a6 (i + 1) c6)).heap[w.heap.size]? = some (.cells #[.slice (some ⟨b, off, none⟩) s.nodes.length cN, .slice aH HL cH] 39) ∧ (w6.setCell ⟨T, 0, none⟩ (.slice a6 (i + 1) c6)).heap[w.heap.size + 1]? = some (.cells #[.slice none 0 0, .slice none 0 0] 39))) := by
        intro w' w6 o v6 a2 c2 hs hg ho6
        obtain ⟨a6, c6, e6, _, _⟩ := (Rws.own ho6).len
        simp only [List.length_append, List.length_map, List.length_cons, List.length_nil] at e6
        rw [HELN.out] at e6
        subst e6
        have uo := up_alloc w' o
        have hsz : w.heap.size ≤ wq.heap.size := Nat.le_trans HO.out.2.1.size uq.out.size
        have O3 := (OQ.out.up hs.2).up uo
        have z := O3.2.addRow O3.1 (by decide) (by decide) (by decide) (y := y) (nx := NX) ((hs.1.mono hsz).up uo) (OQ.out.2.apart_new hs.1) hg ho6
        have hne : some wr.heap.size ≠ Value.ownBlock (.slice an' i cn') := by
          intro q
          have := (HO.out.1.2.nodes.2.lt _ q.symm).2
          omega
        have hne0 : ∀ B o2, wr.heap[B]? = some o2 → B < T → (∀ g, Value.ownBlock (.slice an' i cn') = some g → g ≠ B) → (w6.setCell ⟨T, 0, none⟩ (.slice a6 (i + 1) c6)).heap[B]? = some o2 := by
          intro B o2 hB hBT hg2
          refine (Below.heap_setCell _ _ _ B (by simp only; omega)).trans ?_
          refine blk_grown (blk_up (blk_up (blk_up hB uq.out) hs.2) uo) hg ?_
          intro q
          exact hg2 B q.symm rfl
        have hown : ∀ cs B (t2 : TypeId), wr.heap[B]? = some (.cells cs t2) → 124 ≠ t2 → ∀ g, Value.ownBlock (.slice an' i cn') = some g → g ≠ B := by
          intro cs B t2 hB ht g hg2 e
          subst e
          rcases own_blk_ne HO.out.1.2.nodes.2 hB ht with q | q
          · rw [q] at hg2; cases hg2
          · exact q hg2
        have k0 := blk_grown (blk_up (blk_up HBQ.out hs.2) uo) hg hne
        refine ⟨a6, c6, rfl, blk_cell z.1 0 _ rfl, blk_frozen z.1 0, blk_cell k0 0 _ rfl, blk_cell k0 1 _ rfl, blk_cell k0 2 _ rfl, blk_cell k0 3 _ rfl, blk_cell k0 4 _ rfl, es' ++ [(y, .slice a2 HK c2)], ⟨z.2.1, ?_⟩, ?_, ?_, ?_⟩
        · rw [HTKH.out]
          exact z.2.2.1
        · exact (up_trans HO.out.2.1 (up_trans uq.out (up_trans hs.2 uo))).trans (z.2.2.2 w.heap.size (Nat.le_refl _) HTT.out.1 (Nat.le_trans hsz (Nat.le_trans hs.2.size uo.size)))
        · exact hne0 _ _ HO.out.2.2.1 (by have := HTT.out.2; omega) (hown _ _ _ HO.out.2.2.1 (by decide))
        · exact hne0 _ _ HO.out.2.2.2 (by have := HTT.out.2; omega) (hown _ _ _ HO.out.2.2.2 (by decide))
      have nT : ¬ T = wr.heap.size := by have := blk_lt HO.out.1.1; omega
      have nT2 : ¬ wr.heap.size = T := fun q => nT q.symm
      refine wp_region_held_drew (S := (fun w' => w'.cell? ⟨wr.heap.size, 0, none⟩ = some (.string y.key) ∧ w'.cell? ⟨wr.heap.size, 1, none⟩ = some (.int .i64 y.seq) ∧ w'.cell? ⟨wr.heap.size, 2, none⟩ = some (.int .i64 y.kind) ∧ w'.cell? ⟨wr.heap.size, 3, none⟩ = some (.string y.val) ∧ w'.cell? ⟨wr.heap.size, 4, none⟩ = some (.slice ai HK ci))) (by kernel_rfl) (by (try dsimp only); first | with_reducible exact ⟨y0, y1, y2, y3, y4⟩ | with_reducible exact ⟨t0, t1, t2, t3, t4⟩ | with_reducible exact ⟨m0 _, m1 _, m2 _, m3 _, m4 _⟩ | (simp [go_sem, r0, r1, r2, r3, r4]; done) | (simp [go_sem, t0, t1, t2, t3, t4, nT, nT2]; done)) (fun hHeld => ?_)
      refine wpAnyH_take (i := 0) (v := ?_) rfl (by kernel_rfl) (by kernel_rfl) (by kernel_rfl) (fun _ _ _ h => h) (Or.inl ⟨by kernel_rfl, ?_⟩) (by assumption) ?_
      rotate_left
      focus (intro w hSw; (try dsimp only at hSw); go_simp; (try with_reducible rfl); done)
      try simp only [Act.put, List.getElem_toArray, List.getElem_cons_zero, List.getElem_cons_succ, List.setIfInBounds_toArray, List.set_cons_zero, List.set_cons_succ]
      refine wpAnyH_take (i := 2) (v := ?_) rfl (by kernel_rfl) (by kernel_rfl) (by kernel_rfl) (fun _ _ _ h => h) (Or.inl ⟨by kernel_rfl, ?_⟩) (by assumption) ?_
      rotate_left
      focus (intro w hSw; (try dsimp only at hSw); go_simp; (try with_reducible rfl); done)
      try simp only [Act.put, List.getElem_toArray, List.getElem_cons_zero, List.getElem_cons_succ, List.setIfInBounds_toArray, List.set_cons_zero, List.set_cons_succ]
      refine wpAnyH_take (i := 4) (v := ?_) rfl (by kernel_rfl) (by kernel_rfl) (by kernel_rfl) (fun _ _ _ h => h) (Or.inl ⟨by kernel_rfl, ?_⟩) (by assumption) ?_
      rotate_left
      focus (intro w hSw; (try dsimp only at hSw); go_simp; (try with_reducible rfl); done)
      try simp only [Act.put, List.getElem_toArray, List.getElem_cons_zero, List.getElem_cons_succ, List.setIfInBounds_toArray, List.set_cons_zero, List.set_cons_succ]
      refine wpAnyH_take (i := 3) (v := ?_) rfl (by kernel_rfl) (by kernel_rfl) (by kernel_rfl) (fun _ _ _ h => h) (Or.inl ⟨by kernel_rfl, ?_⟩) (by assumption) ?_
      rotate_left
      focus (intro w hSw; (try dsimp only at hSw); go_simp; (try with_reducible rfl); done)
      try simp only [Act.put, List.getElem_toArray, List.getElem_cons_zero, List.getElem_cons_succ, List.setIfInBounds_toArray, List.set_cons_zero, List.set_cons_succ]
      refine wpAnyH_take (i := 5) (v := ?_) rfl (by kernel_rfl) (by kernel_rfl) (by kernel_rfl) (fun _ _ _ h => h) (Or.inl ⟨by kernel_rfl, ?_⟩) (by assumption) ?_
      rotate_left
      focus (intro w hSw; (try dsimp only at hSw); go_simp; (try with_reducible rfl); done)
      try simp only [Act.put, List.getElem_toArray, List.getElem_cons_zero, List.getElem_cons_succ, List.setIfInBounds_toArray, List.set_cons_zero, List.set_cons_succ]
      refine wpAnyH_ready (rs := [1, 6]) (by kernel_rfl) (by simp) ?_
      refine AllReadyH.cons rfl (fun K hK => ?_) (AllReadyH.cons rfl (fun K hK => ?_) AllReadyH.nil)
      · skip
        go_simp
        refine hK.out _ _ (by (try dsimp only); first | with_reducible exact ⟨y0, y1, y2, y3, y4⟩ | with_reducible exact ⟨t0, t1, t2, t3, t4⟩ | with_reducible exact ⟨m0 _, m1 _, m2 _, m3 _, m4 _⟩ | (simp [go_sem, r0, r1, r2, r3, r4]; done) | (simp [go_sem, t0, t1, t2, t3, t4, nT, nT2]; done)) (fun hHeld => ?_)
        clear hK K
        try simp only [Act.put, List.getElem_toArray, List.getElem_cons_zero, List.getElem_cons_succ, List.setIfInBounds_toArray, List.set_cons_zero, List.set_cons_succ]
        refine wpAnyH_ready (rs := [6]) (by kernel_rfl) (by simp) ?_
        refine AllReadyH.cons rfl (fun K hK => ?_) AllReadyH.nil
        refine step_append_rows _ rfl (.const (.slice none 0 0)) (.tmp 22) 37 3 _ 1 8 rfl Tryz.underlying37 Tryz.info3 rfl (by decide) wq.heap.size (.slice none 0 0) [] rfl (OwnR.nil _ _ _ _) (.slice ai HK ci) (NX.map irow) rfl HNX1.out (one_int _) HD1.out HD2.out HD3.out ?_
        intro v2 w2 o2 g2
        obtain ⟨a2, c2, rfl, yt, y0, y1, y2, y3, y4, hs⟩ := HI1.out _ _ o2 g2
        have m0 := fun o => cell_al o y0
        have m1 := fun o => cell_al o y1
        have m2 := fun o => cell_al o y2
        have m3 := fun o => cell_al o y3
        have m4 := fun o => cell_al o y4
        have mt := fun o => cell_al o yt
        refine hK.out _ _ (by (try dsimp only); first | with_reducible exact ⟨y0, y1, y2, y3, y4⟩ | with_reducible exact ⟨t0, t1, t2, t3, t4⟩ | with_reducible exact ⟨m0 _, m1 _, m2 _, m3 _, m4 _⟩ | (simp [go_sem, r0, r1, r2, r3, r4]; done) | (simp [go_sem, t0, t1, t2, t3, t4, nT, nT2]; done)) (fun hHeld => ?_)
        clear hK K
        try simp only [Act.put, List.getElem_toArray, List.getElem_cons_zero, List.getElem_cons_succ, List.setIfInBounds_toArray, List.set_cons_zero, List.set_cons_succ]
        refine wpAnyH_take (i := 7) (v := ?_) rfl (by kernel_rfl) (by kernel_rfl) (by kernel_rfl) (fun _ _ _ h => h) (Or.inl ⟨by kernel_rfl, ?_⟩) (by assumption) ?_
        rotate_left
        focus (intro w hSw; (try dsimp only at hSw); go_simp; (try with_reducible rfl); done)
        try simp only [Act.put, List.getElem_toArray, List.getElem_cons_zero, List.getElem_cons_succ, List.setIfInBounds_toArray, List.set_cons_zero, List.set_cons_succ]
        refine wpAnyH_ready (rs := [8]) (by kernel_rfl) (by simp) ?_
        refine AllReadyH.cons rfl (fun K hK => ?_) AllReadyH.nil
        go_simp
        refine hK.out _ _ (by (try dsimp only); first | with_reducible exact ⟨y0, y1, y2, y3, y4⟩ | with_reducible exact ⟨t0, t1, t2, t3, t4⟩ | with_reducible exact ⟨m0 _, m1 _, m2 _, m3 _, m4 _⟩ | (simp [go_sem, r0, r1, r2, r3, r4]; done) | (simp [go_sem, t0, t1, t2, t3, t4, nT, nT2]; done)) (fun hHeld => ?_)
        clear hK K
        try simp only [Act.put, List.getElem_toArray, List.getElem_cons_zero, List.getElem_cons_succ, List.setIfInBounds_toArray, List.set_cons_zero, List.set_cons_succ]
        refine wpAnyH_ready (rs := [9]) (by kernel_rfl) (by simp) ?_
        refine AllReadyH.cons rfl (fun K hK => ?_) AllReadyH.nil
        refine step_append_rows _ rfl (.tmp 18) (.tmp 25) 36 124 _ 5 72 rfl Tryz.underlying36 Tryz.info124 rfl (by decide) w.heap.size (.slice an' i cn') (es'.map nrow) rfl (HA1.out _ _ hs.out.2) _ [nrow (y, .slice a2 HK c2)] rfl (HA2.out _ _ _) (HA3.out _ _) HA4.out.1 HA4.out.2 (HA5.out _ _ hs.out.2) ?_
        intro v6 w6 o6 g6
        obtain ⟨a6, c6, rfl, tt, tf, t0, t1, t2, t3, t4, hz⟩ := HG.out _ _ _ _ _ _ hs.out g6 o6
        refine hK.out _ _ (by (try dsimp only); first | with_reducible exact ⟨y0, y1, y2, y3, y4⟩ | with_reducible exact ⟨t0, t1, t2, t3, t4⟩ | with_reducible exact ⟨m0 _, m1 _, m2 _, m3 _, m4 _⟩ | (simp [go_sem, r0, r1, r2, r3, r4]; done) | (simp [go_sem, t0, t1, t2, t3, t4, nT, nT2]; done)) (fun hHeld => ?_)
        clear hK K
        try simp only [Act.put, List.getElem_toArray, List.getElem_cons_zero, List.getElem_cons_succ, List.setIfInBounds_toArray, List.set_cons_zero, List.set_cons_succ]
        refine wpAnyH_take (i := 10) (v := ?_) rfl (by kernel_rfl) (by kernel_rfl) (by kernel_rfl) (fun _ _ _ h => h) (Or.inl ⟨by kernel_rfl, ?_⟩) (by assumption) ?_
        rotate_left
        focus (intro w hSw; (try dsimp only at hSw); go_simp; (try with_reducible rfl); done)
        try simp only [Act.put, List.getElem_toArray, List.getElem_cons_zero, List.getElem_cons_succ, List.setIfInBounds_toArray, List.set_cons_zero, List.set_cons_succ]
        refine wpAnyH_ready (rs := [11]) (by kernel_rfl) (by simp) ?_
        refine AllReadyH.cons rfl (fun K hK => ?_) AllReadyH.nil
        go_simp
        refine hK.out _ _ (by (try dsimp only); first | with_reducible exact ⟨y0, y1, y2, y3, y4⟩ | with_reducible exact ⟨t0, t1, t2, t3, t4⟩ | with_reducible exact ⟨m0 _, m1 _, m2 _, m3 _, m4 _⟩ | (simp [go_sem, r0, r1, r2, r3, r4]; done) | (simp [go_sem, t0, t1, t2, t3, t4, nT, nT2]; done)) (fun hHeld => ?_)
        clear hK K
        try simp only [Act.put, List.getElem_toArray, List.getElem_cons_zero, List.getElem_cons_succ, List.setIfInBounds_toArray, List.set_cons_zero, List.set_cons_succ]
        refine wpAnyH_done (by kernel_rfl) ?_ _
        clear y0 y1 y2 y3 y4 yt m0 m1 m2 m3 m4 mt t0 t1 t2 t3 t4 tt tf hs g6 o6 o2 g2 tq r0 r1 r2 r3 r4
        obtain ⟨es2, hz2⟩ := hz.out
        go_wp2_with fail
        exact ⟨⟨i + 1, a6, c6, es2, by omega, by go_num, hz2⟩, by simp [intOf]; omega⟩
      · skip
        refine step_append_rows _ rfl (.const (.slice none 0 0)) (.tmp 22) 37 3 _ 1 8 rfl Tryz.underlying37 Tryz.info3 rfl (by decide) wq.heap.size (.slice none 0 0) [] rfl (OwnR.nil _ _ _ _) (.slice ai HK ci) (NX.map irow) rfl HNX1.out (one_int _) HD1.out HD2.out HD3.out ?_
        intro v2 w2 o2 g2
        obtain ⟨a2, c2, rfl, yt, y0, y1, y2, y3, y4, hs⟩ := HI1.out _ _ o2 g2
        have m0 := fun o => cell_al o y0
        have m1 := fun o => cell_al o y1
        have m2 := fun o => cell_al o y2
        have m3 := fun o => cell_al o y3
        have m4 := fun o => cell_al o y4
        have mt := fun o => cell_al o yt
        refine hK.out _ _ (by (try dsimp only); first | with_reducible exact ⟨y0, y1, y2, y3, y4⟩ | with_reducible exact ⟨t0, t1, t2, t3, t4⟩ | with_reducible exact ⟨m0 _, m1 _, m2 _, m3 _, m4 _⟩ | (simp [go_sem, r0, r1, r2, r3, r4]; done) | (simp [go_sem, t0, t1, t2, t3, t4, nT, nT2]; done)) (fun hHeld => ?_)
        clear hK K
        try simp only [Act.put, List.getElem_toArray, List.getElem_cons_zero, List.getElem_cons_succ, List.setIfInBounds_toArray, List.set_cons_zero, List.set_cons_succ]
        refine wpAnyH_take (i := 7) (v := ?_) rfl (by kernel_rfl) (by kernel_rfl) (by kernel_rfl) (fun _ _ _ h => h) (Or.inl ⟨by kernel_rfl, ?_⟩) (by assumption) ?_
        rotate_left
        focus (intro w hSw; (try dsimp only at hSw); go_simp; (try with_reducible rfl); done)
        try simp only [Act.put, List.getElem_toArray, List.getElem_cons_zero, List.getElem_cons_succ, List.setIfInBounds_toArray, List.set_cons_zero, List.set_cons_succ]
        refine wpAnyH_ready (rs := [1, 8]) (by kernel_rfl) (by simp) ?_
        refine AllReadyH.cons rfl (fun K hK => ?_) (AllReadyH.cons rfl (fun K hK => ?_) AllReadyH.nil)
        · skip
          go_simp
          refine hK.out _ _ (by (try dsimp only); first | with_reducible exact ⟨y0, y1, y2, y3, y4⟩ | with_reducible exact ⟨t0, t1, t2, t3, t4⟩ | with_reducible exact ⟨m0 _, m1 _, m2 _, m3 _, m4 _⟩ | (simp [go_sem, r0, r1, r2, r3, r4]; done) | (simp [go_sem, t0, t1, t2, t3, t4, nT, nT2]; done)) (fun hHeld => ?_)
          clear hK K
          try simp only [Act.put, List.getElem_toArray, List.getElem_cons_zero, List.getElem_cons_succ, List.setIfInBounds_toArray, List.set_cons_zero, List.set_cons_succ]
          refine wpAnyH_ready (rs := [8]) (by kernel_rfl) (by simp) ?_
          refine AllReadyH.cons rfl (fun K hK => ?_) AllReadyH.nil
          go_simp
          refine hK.out _ _ (by (try dsimp only); first | with_reducible exact ⟨y0, y1, y2, y3, y4⟩ | with_reducible exact ⟨t0, t1, t2, t3, t4⟩ | with_reducible exact ⟨m0 _, m1 _, m2 _, m3 _, m4 _⟩ | (simp [go_sem, r0, r1, r2, r3, r4]; done) | (simp [go_sem, t0, t1, t2, t3, t4, nT, nT2]; done)) (fun hHeld => ?_)
          clear hK K
          try simp only [Act.put, List.getElem_toArray, List.getElem_cons_zero, List.getElem_cons_succ, List.setIfInBounds_toArray, List.set_cons_zero, List.set_cons_succ]
          refine wpAnyH_ready (rs := [9]) (by kernel_rfl) (by simp) ?_
          refine AllReadyH.cons rfl (fun K hK => ?_) AllReadyH.nil
          refine step_append_rows _ rfl (.tmp 18) (.tmp 25) 36 124 _ 5 72 rfl Tryz.underlying36 Tryz.info124 rfl (by decide) w.heap.size (.slice an' i cn') (es'.map nrow) rfl (HA1.out _ _ hs.out.2) _ [nrow (y, .slice a2 HK c2)] rfl (HA2.out _ _ _) (HA3.out _ _) HA4.out.1 HA4.out.2 (HA5.out _ _ hs.out.2) ?_
          intro v6 w6 o6 g6
          obtain ⟨a6, c6, rfl, tt, tf, t0, t1, t2, t3, t4, hz⟩ := HG.out _ _ _ _ _ _ hs.out g6 o6
          refine hK.out _ _ (by (try dsimp only); first | with_reducible exact ⟨y0, y1, y2, y3, y4⟩ | with_reducible exact ⟨t0, t1, t2, t3, t4⟩ | with_reducible exact ⟨m0 _, m1 _, m2 _, m3 _, m4 _⟩ | (simp [go_sem, r0, r1, r2, r3, r4]; done) | (simp [go_sem, t0, t1, t2, t3, t4, nT, nT2]; done)) (fun hHeld => ?_)
          clear hK K
          try simp only [Act.put, List.getElem_toArray, List.getElem_cons_zero, List.getElem_cons_succ, List.setIfInBounds_toArray, List.set_cons_zero, List.set_cons_succ]
          refine wpAnyH_take (i := 10) (v := ?_) rfl (by kernel_rfl) (by kernel_rfl) (by kernel_rfl) (fun _ _ _ h => h) (Or.inl ⟨by kernel_rfl, ?_⟩) (by assumption) ?_
          rotate_left
          focus (intro w hSw; (try dsimp only at hSw); go_simp; (try with_reducible rfl); done)
          try simp only [Act.put, List.getElem_toArray, List.getElem_cons_zero, List.getElem_cons_succ, List.setIfInBounds_toArray, List.set_cons_zero, List.set_cons_succ]
          refine wpAnyH_ready (rs := [11]) (by kernel_rfl) (by simp) ?_
          refine AllReadyH.cons rfl (fun K hK => ?_) AllReadyH.nil
          go_simp
          refine hK.out _ _ (by (try dsimp only); first | with_reducible exact ⟨y0, y1, y2, y3, y4⟩ | with_reducible exact ⟨t0, t1, t2, t3, t4⟩ | with_reducible exact ⟨m0 _, m1 _, m2 _, m3 _, m4 _⟩ | (simp [go_sem, r0, r1, r2, r3, r4]; done) | (simp [go_sem, t0, t1, t2, t3, t4, nT, nT2]; done)) (fun hHeld => ?_)
          clear hK K
          try simp only [Act.put, List.getElem_toArray, List.getElem_cons_zero, List.getElem_cons_succ, List.setIfInBounds_toArray, List.set_cons_zero, List.set_cons_succ]
          refine wpAnyH_done (by kernel_rfl) ?_ _
          clear y0 y1 y2 y3 y4 yt m0 m1 m2 m3 m4 mt t0 t1 t2 t3 t4 tt tf hs g6 o6 o2 g2 tq r0 r1 r2 r3 r4
          obtain ⟨es2, hz2⟩ := hz.out
          go_wp2_with fail
          exact ⟨⟨i + 1, a6, c6, es2, by omega, by go_num, hz2⟩, by simp [intOf]; omega⟩
        · skip
          go_simp
          refine hK.out _ _ (by (try dsimp only); first | with_reducible exact ⟨y0, y1, y2, y3, y4⟩ | with_reducible exact ⟨t0, t1, t2, t3, t4⟩ | with_reducible exact ⟨m0 _, m1 _, m2 _, m3 _, m4 _⟩ | (simp [go_sem, r0, r1, r2, r3, r4]; done) | (simp [go_sem, t0, t1, t2, t3, t4, nT, nT2]; done)) (fun hHeld => ?_)
          clear hK K
          try simp only [Act.put, List.getElem_toArray, List.getElem_cons_zero, List.getElem_cons_succ, List.setIfInBounds_toArray, List.set_cons_zero, List.set_cons_succ]
          refine wpAnyH_ready (rs := [1]) (by kernel_rfl) (by simp) ?_
          refine AllReadyH.cons rfl (fun K hK => ?_) AllReadyH.nil
          go_simp
          refine hK.out _ _ (by (try dsimp only); first | with_reducible exact ⟨y0, y1, y2, y3, y4⟩ | with_reducible exact ⟨t0, t1, t2, t3, t4⟩ | with_reducible exact ⟨m0 _, m1 _, m2 _, m3 _, m4 _⟩ | (simp [go_sem, r0, r1, r2, r3, r4]; done) | (simp [go_sem, t0, t1, t2, t3, t4, nT, nT2]; done)) (fun hHeld => ?_)
          clear hK K
          try simp only [Act.put, List.getElem_toArray, List.getElem_cons_zero, List.getElem_cons_succ, List.setIfInBounds_toArray, List.set_cons_zero, List.set_cons_succ]
          refine wpAnyH_ready (rs := [9]) (by kernel_rfl) (by simp) ?_
          refine AllReadyH.cons rfl (fun K hK => ?_) AllReadyH.nil
          refine step_append_rows _ rfl (.tmp 18) (.tmp 25) 36 124 _ 5 72 rfl Tryz.underlying36 Tryz.info124 rfl (by decide) w.heap.size (.slice an' i cn') (es'.map nrow) rfl (HA1.out _ _ hs.out.2) _ [nrow (y, .slice a2 HK c2)] rfl (HA2.out _ _ _) (HA3.out _ _) HA4.out.1 HA4.out.2 (HA5.out _ _ hs.out.2) ?_
          intro v6 w6 o6 g6
          obtain ⟨a6, c6, rfl, tt, tf, t0, t1, t2, t3, t4, hz⟩ := HG.out _ _ _ _ _ _ hs.out g6 o6
          refine hK.out _ _ (by (try dsimp only); first | with_reducible exact ⟨y0, y1, y2, y3, y4⟩ | with_reducible exact ⟨t0, t1, t2, t3, t4⟩ | with_reducible exact ⟨m0 _, m1 _, m2 _, m3 _, m4 _⟩ | (simp [go_sem, r0, r1, r2, r3, r4]; done) | (simp [go_sem, t0, t1, t2, t3, t4, nT, nT2]; done)) (fun hHeld => ?_)
          clear hK K
          try simp only [Act.put, List.getElem_toArray, List.getElem_cons_zero, List.getElem_cons_succ, List.setIfInBounds_toArray, List.set_cons_zero, List.set_cons_succ]
          refine wpAnyH_take (i := 10) (v := ?_) rfl (by kernel_rfl) (by kernel_rfl) (by kernel_rfl) (fun _ _ _ h => h) (Or.inl ⟨by kernel_rfl, ?_⟩) (by assumption) ?_
          rotate_left
          focus (intro w hSw; (try dsimp only at hSw); go_simp; (try with_reducible rfl); done)
          try simp only [Act.put, List.getElem_toArray, List.getElem_cons_zero, List.getElem_cons_succ, List.setIfInBounds_toArray, List.set_cons_zero, List.set_cons_succ]
          refine wpAnyH_ready (rs := [11]) (by kernel_rfl) (by simp) ?_
          refine AllReadyH.cons rfl (fun K hK => ?_) AllReadyH.nil
          go_simp
          refine hK.out _ _ (by (try dsimp only); first | with_reducible exact ⟨y0, y1, y2, y3, y4⟩ | with_reducible exact ⟨t0, t1, t2, t3, t4⟩ | with_reducible exact ⟨m0 _, m1 _, m2 _, m3 _, m4 _⟩ | (simp [go_sem, r0, r1, r2, r3, r4]; done) | (simp [go_sem, t0, t1, t2, t3, t4, nT, nT2]; done)) (fun hHeld => ?_)
          clear hK K
          try simp only [Act.put, List.getElem_toArray, List.getElem_cons_zero, List.getElem_cons_succ, List.setIfInBounds_toArray, List.set_cons_zero, List.set_cons_succ]
          refine wpAnyH_done (by kernel_rfl) ?_ _
          clear y0 y1 y2 y3 y4 yt m0 m1 m2 m3 m4 mt t0 t1 t2 t3 t4 tt tf hs g6 o6 o2 g2 tq r0 r1 r2 r3 r4
          obtain ⟨es2, hz2⟩ := hz.out
          go_wp2_with fail
          exact ⟨⟨i + 1, a6, c6, es2, by omega, by go_num, hz2⟩, by simp [intOf]; omega⟩
    · obtain rfl : i = s.nodes.length := by omega
      have c0 : wr.cell? ⟨T, 0, none⟩ = some (.slice an' s.nodes.length cn') := blk_cell HO.out.1.1 0 _ rfl
      have c1 : wr.cell? ⟨T, 1, none⟩ = some (.slice ah HM ch) := blk_cell HO.out.1.1 1 _ rfl
      have d0 : wr.cell? ⟨w.heap.size + 1, 0, none⟩ = some (.slice none 0 0) := blk_cell HO.out.2.2.2 0 _ rfl
      have d1 : wr.cell? ⟨w.heap.size + 1, 1, none⟩ = some (.slice none 0 0) := blk_cell HO.out.2.2.2 1 _ rfl
      have f0 := fun k => blk_frozen HO.out.2.2.2 k
      go_wp2_with fail
      refine bodyPost_ret (results_st rfl (.inl rfl) _ _ rfl (set2_blk HO.out.2.2.2 (.slice an' s.nodes.length cn') (.slice ah HM ch))) rfl ?_
      have g2 := set2_grown wr (w.heap.size + 1) (.slice an' s.nodes.length cn') (.slice ah HM ch)
      refine ⟨_, _, es', rfl, ?_, ?_⟩
      · have := HO.out.1.2.block HO.out.2.2.2 (by decide) (by decide) g2
        rw [List.take_length] at this
        exact this
      · exact HO.out.2.1.grown g2 HO.out.2.1.size (fun k hk => by injection hk with hk; rw [← hk]; omega)
end Go.Proofs.YthiegmhplnbdlaaGreat

namespace Go.Proofs.YthiegmhplnbdlaaGreat
open Go.RowKit
set_option linter.unusedVariables false
set_option linter.unusedSimpArgs false
set_option maxRecDepth 100000 in
theorem waysOf_any (s : Sk) (es : List (En × Value)) (vN vH : Value) (w : World) (h : SkE w vN vH s es) (a : Nat) (ha : a ≤ s.nodes.length) :
    Calls Tryz.prog 56 #[.agg #[vN, vH], .int .i64 (a : Int)] w fun e w' => e = .returned (wayV vH es a) ∧ w' = w.alloc (.cells #[vN, vH] 39) := by
  obtain ⟨⟨aN, cN, rfl⟩, ⟨aH, cH, rfl⟩⟩ := h.form
  cases a with
  | zero =>
    go_enter Tryz.func56, Tryz.ntmps56
    go_wp2_with fail
    go_ret
    exact ⟨rfl, rfl⟩
  | succ k =>
    obtain ⟨b, off, an, cn, rfl, _, hw, c0, c1, c2, c3, c4⟩ := (h.up (up_alloc w (.cells #[.slice aN s.nodes.length cN, .slice aH s.head.length cH] 39))).node k (by omega)
    have hk : (k : Int) < (s.nodes.length : Int) := by omega
    have h63 : (s.nodes.length : Int) ≤ 9223372036854775807 := by
      obtain ⟨_, _, e, h4, h5⟩ := h.nodes.len
      have := h.len
      unfold maxLen at h5
      omega
    have hz : ((k : Int) + 1 == 0) = false := by simp; omega
    have e1 : (((k + 1 : Nat)) : Int) = (k : Int) + 1 := by omega
    rw [hw, e1]
    clear hw e1
    go_enter Tryz.func56, Tryz.ntmps56
    go_wp2_with fail
    go_ret
    exact ⟨rfl, rfl⟩
end Go.Proofs.YthiegmhplnbdlaaGreat
