/- The document's All. -/
import Derived.Test.YtmiokopnhkojoaaRCheck
import Derived.Test.YtmiokopnhkojoaaPAll2
namespace Go.Proofs.Ytmiokopnhkojoaa
open Go.RowKit
set_option linter.unusedVariables false
set_option linter.unusedSimpArgs false

set_option maxHeartbeats 4000000 in
set_option maxRecDepth 100000 in
theorem refAll_any (s : Sk) (es : List (En × Value)) (vN vH : Value) (w : World) (hV : SkE w vN vH s es) :
    Calls Try.prog 14 #[.agg #[vN, vH]] w fun e w' => ∃ a n c, e = .returned (.tuple #[.slice a n c, .int .i64 (errC s)]) ∧ Hid (n = (allV s).length ∧ OwnR w' w.heap.size 27 4 (.slice a n c) ((allV s).map enRow)) ∧ Hid (Below w.heap.size w w') := by
  obtain ⟨⟨aN, cN, rfl⟩, ⟨aH, cH, rfl⟩⟩ := hV.form
  have HV : Hid (SkE w (.slice aN s.nodes.length cN) (.slice aH s.head.length cH) s es) := hV
  clear hV
  obtain ⟨wa, hwa⟩ : ∃ wa, wa = w.alloc (.cells #[.slice aN s.nodes.length cN, .slice aH s.head.length cH] 25) := ⟨_, rfl⟩
  have HWA : Hid (w.alloc (.cells #[.slice aN s.nodes.length cN, .slice aH s.head.length cH] 25) = wa) := hwa.symm
  have HB : Hid (Below w.heap.size w wa ∧ wa.heap[w.heap.size]? = some (.cells #[.slice aN s.nodes.length cN, .slice aH s.head.length cH] 25)) := by rw [hwa]; exact ⟨up_alloc _ _, blk_new _ _⟩
  have p0 : wa.cell? ⟨w.heap.size, 0, none⟩ = some (.slice aN s.nodes.length cN) := blk_cell HB.out.2 0 _ rfl
  have p1 : wa.cell? ⟨w.heap.size, 1, none⟩ = some (.slice aH s.head.length cH) := blk_cell HB.out.2 1 _ rfl
  have HC := refCheck_any s es _ _ wa (HV.out.up HB.out.1)
  clear hwa
  go_enter Try.func14, Try.ntmps14
  go_upto_region 1 with fail
  rw [HWA.out]
  clear HWA
  go_wp2_with fail
  refine HC.mono ?_
  rintro e w1 ⟨rfl, U1⟩
  have HB1 : Hid (Below w.heap.size w w1 ∧ w1.heap[w.heap.size]? = some (.cells #[.slice aN s.nodes.length cN, .slice aH s.head.length cH] 25)) := ⟨up_trans HB.out.1 U1.out, blk_up HB.out.2 U1.out⟩
  clear HC p0 p1 HB U1
  by_cases hG : checkS s = true
  · have e0 : errC s = 0 := by unfold errC; rw [if_pos hG]
    have HE : Hid (errC s = 0) := e0
    have HAL : Hid (allV s = s.all) := by unfold Hid allV; rw [if_pos hG]
    rw [e0]
    have HG : Hid (Good s) := (checkS_iff s).1 hG
    clear hG e0
    have HEL : Hid (es.length = s.nodes.length) := HV.out.len
    have HOD := order_any es (.slice aN s.nodes.length cN) w1 (HV.out.up HB1.out.1).nodes (by rw [HEL.out]; exact HG.out.few)
    rw [HEL.out, HV.out.ents] at HOD
    have p0 : w1.cell? ⟨w.heap.size, 0, none⟩ = some (.slice aN s.nodes.length cN) := blk_cell HB1.out.2 0 _ rfl
    go_wp2_with fail
    refine HOD.mono ?_
    rintro e wO ⟨ao, co, rfl, OO, UO⟩
    have HOR : Hid (Rws 1 wO (.slice ao s.nodes.length co) (s.ord.map inrow)) := Rws.own OO.out
    have HBO : Hid (Below w.heap.size w wO ∧ wO.heap[w.heap.size]? = some (.cells #[.slice aN s.nodes.length cN, .slice aH s.head.length cH] 25)) := ⟨up_trans HB1.out.1 UO.out, blk_up HB1.out.2 UO.out⟩
    have HOL : Hid (s.ord.length = s.nodes.length) := orderF_len _ _
    have HSZ : Hid (w.heap.size ≤ wO.heap.size) := HBO.out.1.size
    have h46 : s.nodes.length ≤ 4096 := HG.out.few
    clear HOD OO UO p0 HB1
    go_wp2_with fail
    go_loopw [6, 4] (fun q q4 wr => ∃ (i : Nat) (a : Option Addr) (c : Nat), i ≤ s.nodes.length ∧ q = .int .i64 (i : Int) ∧ q4 = .slice a i c ∧ Hid (OwnR wr wO.heap.size 27 4 (.slice a i c) ((s.ord.take i).map fun k => enRow (s.at' k).1) ∧ Below wO.heap.size wO wr)) (fun q _ _ => s.nodes.length - (intOf q).toNat)
    case atStart => exact ⟨0, none, 0, by omega, rfl, rfl, OwnR.nil _ _ _ _, Below.refl _ _⟩
    case round =>
      obtain ⟨i, a, c, hi, rfl, rfl, HI⟩ := hrel
      by_cases hlt : i < s.nodes.length
      · have hlt' : (i : Int) < (s.nodes.length : Int) := by omega
        have hi0 : 0 ≤ (i : Int) := by omega
        obtain ⟨k, hk⟩ : ∃ k, s.ord[i]? = some k := ⟨s.ord[i]'(by rw [HOL.out]; exact hlt), by simp [HOL.out, hlt]⟩
        have hkn : k < s.nodes.length := (HG.out.mem k).1 (List.mem_of_getElem? hk)
        have hkn' : (k : Int) < (s.nodes.length : Int) := by omega
        have hk0 : 0 ≤ (k : Int) := by omega
        obtain ⟨bo, oo, cpo, eo, _, _, hco⟩ := (HOR.out.up HI.out.2).at i (by rw [List.length_map, HOL.out]; exact hlt)
        simp only [Value.slice.injEq] at eo
        obtain ⟨rfl, hx_, rfl⟩ := eo
        clear hx_
        have o0 : wr.cell? ⟨bo, oo + i, none⟩ = some (.int .i64 (k : Int)) := by
          have hg : (s.ord.map inrow).getD i [] = inrow k := by simp [List.getD, hk]
          have := hco 0 (.int .i64 (k : Int)) (by rw [hg]; rfl)
          simpa using this
        clear hco
        obtain ⟨b, off, an, cn, rfl, _, _, y0, y1, y2, y3, _⟩ := (HV.out.up (up_trans HBO.out.1 HI.out.2)).node k hkn
        have p0 : wr.cell? ⟨w.heap.size, 0, none⟩ = some (.slice (some ⟨b, off, none⟩) s.nodes.length cN) := blk_cell (blk_up HBO.out.2 HI.out.2) 0 _ rfl
        have HTK : Hid ((s.ord.take (i + 1)).map (fun k => enRow (s.at' k).1) = (s.ord.take i).map (fun k => enRow (s.at' k).1) ++ [enRow (s.at' k).1]) := by
          unfold Hid
          rw [List.take_add_one, hk, List.map_append]
          rfl
        have HLN : Hid (((s.ord.take i).map fun k => enRow (s.at' k).1).length = i) := by unfold Hid; rw [List.length_map, List.length_take, HOL.out]; omega
        generalize hy : (s.at' k).1 = y at *
        generalize hRW : (s.ord.take i).map (fun k => enRow (s.at' k).1) = RW at *
        clear hy hk
        have mm0 := fun o => ((up_dr (up_al (Below.refl wr.heap.size wr) o)).cell (World.block_lt_of_cell? _ _ p0)).trans p0
        have mm1 := fun o => ((up_dr (up_al (Below.refl wr.heap.size wr) o)).cell (World.block_lt_of_cell? _ _ o0)).trans o0
        have mm2 := fun o => ((up_dr (up_al (Below.refl wr.heap.size wr) o)).cell (World.block_lt_of_cell? _ _ y0)).trans y0
        have mm3 := fun o => ((up_dr (up_al (Below.refl wr.heap.size wr) o)).cell (World.block_lt_of_cell? _ _ y1)).trans y1
        have mm4 := fun o => ((up_dr (up_al (Below.refl wr.heap.size wr) o)).cell (World.block_lt_of_cell? _ _ y2)).trans y2
        have mm5 := fun o => ((up_dr (up_al (Below.refl wr.heap.size wr) o)).cell (World.block_lt_of_cell? _ _ y3)).trans y3
        have UX : Hid (Below wr.heap.size wr (wr.alloc (.cells #[.string y.key, .int .i64 y.seq, .int .i64 y.kind, .string y.val] 27)).drew) := up_dr (up_al (Below.refl _ _) _)
        have HA1 : Hid (OwnR (wr.alloc (.cells #[.string y.key, .int .i64 y.seq, .int .i64 y.kind, .string y.val] 27)).drew wO.heap.size 27 4 (.slice a i c) RW) := HI.out.1.up UX.out
        have HA2 : Hid (Rws 4 (wr.alloc (.cells #[.string y.key, .int .i64 y.seq, .int .i64 y.kind, .string y.val] 27)).drew (.slice (some ⟨wr.heap.size, 0, none⟩) 1 1) [enRow y]) := (Rws.made (sz := 4) wr 27 [enRow y] (by simp [enRow]) (by simp [maxLen])).up (up_dr (Below.refl _ _))
        have HA4 : Hid ((RW.length + [enRow y].length + (RW.length + [enRow y].length) / 4 + 192) * 48 ≤ 281474976710656 ∧ RW.length + [enRow y].length ≤ maxLen) := by
          have := HLN.out
          unfold Hid maxLen; simp only [List.length_cons, List.length_nil]; omega
        have HA5 : Hid (wO.heap.size ≤ (wr.alloc (.cells #[.string y.key, .int .i64 y.seq, .int .i64 y.kind, .string y.val] 27)).drew.heap.size) := Nat.le_trans HI.out.2.size UX.out.size
        have HG6 : Hid (∀ (w6 : World) (v6 : Value), (wr.alloc (.cells #[.string y.key, .int .i64 y.seq, .int .i64 y.kind, .string y.val] 27)).drew.grownBy w6 (Value.ownBlock (.slice a i c)) → OwnR w6 wO.heap.size 27 4 v6 (RW ++ [enRow y]) → ∃ a6 c6, v6 = .slice a6 (i + 1) c6 ∧ w6.cell? ⟨w.heap.size, 0, none⟩ = some (.slice (some ⟨b, off, none⟩) s.nodes.length cN) ∧ w6.cell? ⟨bo, oo + i, none⟩ = some (.int .i64 (k : Int)) ∧ w6.cell? ⟨b, off + k * 5, none⟩ = some (.string y.key) ∧ w6.cell? ⟨b, off + k * 5 + 1, none⟩ = some (.int .i64 y.seq) ∧ w6.cell? ⟨b, off + k * 5 + 2, none⟩ = some (.int .i64 y.kind) ∧ w6.cell? ⟨b, off + k * 5 + 3, none⟩ = some (.string y.val) ∧ Hid (OwnR w6 wO.heap.size 27 4 (.slice a6 (i + 1) c6) ((s.ord.take (i + 1)).map fun k => enRow (s.at' k).1) ∧ Below wO.heap.size wO w6)) := by
          intro w6 v6 hg ho6
          obtain ⟨a6, c6, e6, _, _⟩ := (Rws.own ho6).len
          simp only [List.length_append, List.length_cons, List.length_nil] at e6
          rw [HLN.out] at e6
          subst e6
          have hb : Below wO.heap.size wO w6 := (up_trans HI.out.2 UX.out).grown hg (up_trans HI.out.2 UX.out).size (fun q hq => (HA1.out.2.lt q hq).1)
          have hx := (HOR.out.up hb).at i (by rw [List.length_map, HOL.out]; exact hlt)
          have key : ∀ (bb : Addr) (q : Value), wr.cell? bb = some q → bb.block < wO.heap.size → w6.cell? bb = some q := by
            intro bb q hq hlt2
            have h0 : wO.cell? bb = some q := by
              have := HI.out.2.cell (p := bb) hlt2
              rw [← this]; exact hq
            exact (hb.cell hlt2).trans h0
          have n1 : w.heap.size < wO.heap.size := blk_lt HBO.out.2
          have n2 : bo < wO.heap.size := by
            obtain ⟨b', o', _, e', _, _, hc'⟩ := HOR.out.at i (by rw [List.length_map, HOL.out]; exact hlt)
            simp only [Value.slice.injEq, Option.some.injEq, Addr.mk.injEq] at e'
            obtain ⟨⟨rfl, rfl, _⟩, _⟩ := e'
            obtain ⟨k', hk'⟩ : ∃ k', s.ord[i]? = some k' := ⟨s.ord[i]'(by rw [HOL.out]; exact hlt), by simp [HOL.out, hlt]⟩
            have hg' : (s.ord.map inrow).getD i [] = inrow k' := by simp [List.getD, hk']
            have := World.block_lt_of_cell? wO _ (hc' 0 (.int .i64 (k' : Int)) (by rw [hg']; rfl))
            simpa using this
          have n3 : b < wO.heap.size := by
            obtain ⟨b', o', _, _, e', _, _, q0, _⟩ := (HV.out.up HBO.out.1).node k hkn
            simp only [Option.some.injEq, Addr.mk.injEq] at e'
            have := World.block_lt_of_cell? wO _ q0
            simp only at this
            omega
          refine ⟨a6, c6, rfl, key _ _ p0 n1, key _ _ o0 n2, key _ _ y0 n3, key _ _ y1 n3, key _ _ y2 n3, key _ _ y3 n3, ?_, hb⟩
          rw [HTK.out]
          exact ho6
        go_upto_region 8 with fail
        refine wp_region_held_drew (S := (fun w' => w'.cell? ⟨w.heap.size, 0, none⟩ = some (.slice (some ⟨b, off, none⟩) s.nodes.length cN) ∧ w'.cell? ⟨bo, oo + i, none⟩ = some (.int .i64 (k : Int)) ∧ w'.cell? ⟨b, off + k * 5, none⟩ = some (.string y.key) ∧ w'.cell? ⟨b, off + k * 5 + 1, none⟩ = some (.int .i64 y.seq) ∧ w'.cell? ⟨b, off + k * 5 + 2, none⟩ = some (.int .i64 y.kind) ∧ w'.cell? ⟨b, off + k * 5 + 3, none⟩ = some (.string y.val))) (by kernel_rfl) (by (try dsimp only); first | with_reducible exact ⟨t0, t1, t2, t3, t4, t5⟩ | with_reducible exact ⟨p0, o0, y0, y1, y2, y3⟩ | with_reducible exact ⟨mm0 _, mm1 _, mm2 _, mm3 _, mm4 _, mm5 _⟩ | (simp [go_sem, p0, o0, y0, y1, y2, y3]; done)) (fun hHeld => ?_)
        refine wpAnyH_take (i := 0) (v := ?_) rfl (by kernel_rfl) (by kernel_rfl) (by kernel_rfl) (fun _ _ _ h => h) (Or.inl ⟨by kernel_rfl, ?_⟩) (by assumption) ?_
        rotate_left
        focus (intro w hSw; (try dsimp only at hSw); go_simp; (try with_reducible rfl); done)
        try simp only [Act.put, List.getElem_toArray, List.getElem_cons_zero, List.getElem_cons_succ, List.setIfInBounds_toArray, List.set_cons_zero, List.set_cons_succ]
        refine wpAnyH_take (i := 1) (v := ?_) rfl (by kernel_rfl) (by kernel_rfl) (by kernel_rfl) (fun _ _ _ h => h) (Or.inl ⟨by kernel_rfl, ?_⟩) (by assumption) ?_
        rotate_left
        focus (intro w hSw; (try dsimp only at hSw); go_simp; (try with_reducible rfl); done)
        try simp only [Act.put, List.getElem_toArray, List.getElem_cons_zero, List.getElem_cons_succ, List.setIfInBounds_toArray, List.set_cons_zero, List.set_cons_succ]
        refine wpAnyH_take (i := 3) (v := ?_) rfl (by kernel_rfl) (by kernel_rfl) (by kernel_rfl) (fun _ _ _ h => h) (Or.inl ⟨by kernel_rfl, ?_⟩) (by assumption) ?_
        rotate_left
        focus (intro w hSw; (try dsimp only at hSw); go_simp; (try with_reducible rfl); done)
        try simp only [Act.put, List.getElem_toArray, List.getElem_cons_zero, List.getElem_cons_succ, List.setIfInBounds_toArray, List.set_cons_zero, List.set_cons_succ]
        refine wpAnyH_take (i := 4) (v := ?_) rfl (by kernel_rfl) (by kernel_rfl) (by kernel_rfl) (fun _ _ _ h => h) (Or.inl ⟨by kernel_rfl, ?_⟩) (by assumption) ?_
        rotate_left
        focus (intro w hSw; (try dsimp only at hSw); go_simp; (try with_reducible rfl); done)
        try simp only [Act.put, List.getElem_toArray, List.getElem_cons_zero, List.getElem_cons_succ, List.setIfInBounds_toArray, List.set_cons_zero, List.set_cons_succ]
        refine wpAnyH_take (i := 2) (v := ?_) rfl (by kernel_rfl) (by kernel_rfl) (by kernel_rfl) (fun _ _ _ h => h) (Or.inl ⟨by kernel_rfl, ?_⟩) (by assumption) ?_
        rotate_left
        focus (intro w hSw; (try dsimp only at hSw); go_simp; (try with_reducible rfl); done)
        try simp only [Act.put, List.getElem_toArray, List.getElem_cons_zero, List.getElem_cons_succ, List.setIfInBounds_toArray, List.set_cons_zero, List.set_cons_succ]
        refine wpAnyH_take (i := 5) (v := ?_) rfl (by kernel_rfl) (by kernel_rfl) (by kernel_rfl) (fun _ _ _ h => h) (Or.inl ⟨by kernel_rfl, ?_⟩) (by assumption) ?_
        rotate_left
        focus (intro w hSw; (try dsimp only at hSw); go_simp; (try with_reducible rfl); done)
        try simp only [Act.put, List.getElem_toArray, List.getElem_cons_zero, List.getElem_cons_succ, List.setIfInBounds_toArray, List.set_cons_zero, List.set_cons_succ]
        refine wpAnyH_take (i := 6) (v := ?_) rfl (by kernel_rfl) (by kernel_rfl) (by kernel_rfl) (fun _ _ _ h => h) (Or.inl ⟨by kernel_rfl, ?_⟩) (by assumption) ?_
        rotate_left
        focus (intro w hSw; (try dsimp only at hSw); go_simp; (try with_reducible rfl); done)
        try simp only [Act.put, List.getElem_toArray, List.getElem_cons_zero, List.getElem_cons_succ, List.setIfInBounds_toArray, List.set_cons_zero, List.set_cons_succ]
        refine wpAnyH_take (i := 7) (v := ?_) rfl (by kernel_rfl) (by kernel_rfl) (by kernel_rfl) (fun _ _ _ h => h) (Or.inl ⟨by kernel_rfl, ?_⟩) (by assumption) ?_
        rotate_left
        focus (intro w hSw; (try dsimp only at hSw); go_simp; (try with_reducible rfl); done)
        try simp only [Act.put, List.getElem_toArray, List.getElem_cons_zero, List.getElem_cons_succ, List.setIfInBounds_toArray, List.set_cons_zero, List.set_cons_succ]
        refine wpAnyH_take (i := 8) (v := ?_) rfl (by kernel_rfl) (by kernel_rfl) (by kernel_rfl) (fun _ _ _ h => h) (Or.inl ⟨by kernel_rfl, ?_⟩) (by assumption) ?_
        rotate_left
        focus (intro w hSw; (try dsimp only at hSw); go_simp; (try with_reducible rfl); done)
        try simp only [Act.put, List.getElem_toArray, List.getElem_cons_zero, List.getElem_cons_succ, List.setIfInBounds_toArray, List.set_cons_zero, List.set_cons_succ]
        refine wpAnyH_take (i := 9) (v := ?_) rfl (by kernel_rfl) (by kernel_rfl) (by kernel_rfl) (fun _ _ _ h => h) (Or.inl ⟨by kernel_rfl, ?_⟩) (by assumption) ?_
        rotate_left
        focus (intro w hSw; (try dsimp only at hSw); go_simp; (try with_reducible rfl); done)
        try simp only [Act.put, List.getElem_toArray, List.getElem_cons_zero, List.getElem_cons_succ, List.setIfInBounds_toArray, List.set_cons_zero, List.set_cons_succ]
        refine wpAnyH_ready (rs := [10]) (by kernel_rfl) (by simp) ?_
        refine AllReadyH.cons rfl (fun K hK => ?_) AllReadyH.nil
        go_simp
        refine hK.out _ _ (by (try dsimp only); first | with_reducible exact ⟨t0, t1, t2, t3, t4, t5⟩ | with_reducible exact ⟨p0, o0, y0, y1, y2, y3⟩ | with_reducible exact ⟨mm0 _, mm1 _, mm2 _, mm3 _, mm4 _, mm5 _⟩ | (simp [go_sem, p0, o0, y0, y1, y2, y3]; done)) (fun hHeld => ?_)
        clear hK K
        try simp only [Act.put, List.getElem_toArray, List.getElem_cons_zero, List.getElem_cons_succ, List.setIfInBounds_toArray, List.set_cons_zero, List.set_cons_succ]
        refine wpAnyH_ready (rs := [11]) (by kernel_rfl) (by simp) ?_
        refine AllReadyH.cons rfl (fun K hK => ?_) AllReadyH.nil
        refine step_append_rows _ rfl (.tmp 19) (.tmp 29) 41 27 _ 4 48 rfl Try.underlying41 Try.info27 rfl (by decide) wO.heap.size (.slice a i c) RW rfl HA1.out _ [enRow y] rfl HA2.out (enRow_one y) HA4.out.1 HA4.out.2 HA5.out ?_
        intro v6 w6 o6 g6
        obtain ⟨a6, c6, rfl, t0, t1, t2, t3, t4, t5, hz⟩ := HG6.out _ _ g6 o6
        refine hK.out _ _ (by (try dsimp only); first | with_reducible exact ⟨t0, t1, t2, t3, t4, t5⟩ | with_reducible exact ⟨p0, o0, y0, y1, y2, y3⟩ | with_reducible exact ⟨mm0 _, mm1 _, mm2 _, mm3 _, mm4 _, mm5 _⟩ | (simp [go_sem, p0, o0, y0, y1, y2, y3]; done)) (fun hHeld => ?_)
        clear hK K
        try simp only [Act.put, List.getElem_toArray, List.getElem_cons_zero, List.getElem_cons_succ, List.setIfInBounds_toArray, List.set_cons_zero, List.set_cons_succ]
        refine wpAnyH_ready (rs := [12]) (by kernel_rfl) (by simp) ?_
        refine AllReadyH.cons rfl (fun K hK => ?_) AllReadyH.nil
        go_simp
        refine hK.out _ _ (by (try dsimp only); first | with_reducible exact ⟨t0, t1, t2, t3, t4, t5⟩ | with_reducible exact ⟨p0, o0, y0, y1, y2, y3⟩ | with_reducible exact ⟨mm0 _, mm1 _, mm2 _, mm3 _, mm4 _, mm5 _⟩ | (simp [go_sem, p0, o0, y0, y1, y2, y3]; done)) (fun hHeld => ?_)
        clear hK K
        try simp only [Act.put, List.getElem_toArray, List.getElem_cons_zero, List.getElem_cons_succ, List.setIfInBounds_toArray, List.set_cons_zero, List.set_cons_succ]
        refine wpAnyH_done (by kernel_rfl) ?_ _
        clear t0 t1 t2 t3 t4 t5 g6 o6 mm0 mm1 mm2 mm3 mm4 mm5 p0 o0 y0 y1 y2 y3
        go_wp2_with fail
        exact ⟨⟨i + 1, a6, c6, by omega, by go_num, rfl, hz⟩, by simp [intOf]; omega⟩
      · obtain rfl : i = s.nodes.length := by omega
        have HFIN : Hid (s.nodes.length = (allV s).length ∧ OwnR wr w.heap.size 27 4 (.slice a s.nodes.length c) ((allV s).map enRow)) := by
          have e1 : (s.ord.take s.nodes.length).map (fun k => enRow (s.at' k).1) = s.all.map enRow := by
            rw [← HOL.out, List.take_length]
            simp [Sk.all]
          refine ⟨?_, ?_⟩
          · rw [HAL.out]
            unfold Sk.all
            rw [List.length_map, HOL.out]
          · rw [HAL.out, ← e1]
            exact HI.out.1.mono HSZ.out
        have HUE : Hid (Below w.heap.size w wr) := up_trans HBO.out.1 HI.out.2
        go_wp2_with fail
        go_ret2
        exact ⟨a, s.nodes.length, c, by rw [HE.out]; rfl, HFIN, HUE⟩
  · have e9 : errC s = 9 := by unfold errC; rw [if_neg hG]
    have HE : Hid (errC s = 9) := e9
    have HAL : Hid (allV s = []) := by unfold Hid allV; rw [if_neg hG]
    rw [e9]
    clear hG e9
    go_wp2_with fail
    go_ret2
    refine ⟨none, 0, 0, by rw [HE.out]; rfl, ⟨by rw [HAL.out]; rfl, ?_⟩, HB1.out.1⟩
    rw [HAL.out]
    exact OwnR.nil _ _ _ _
end Go.Proofs.Ytmiokopnhkojoaa
