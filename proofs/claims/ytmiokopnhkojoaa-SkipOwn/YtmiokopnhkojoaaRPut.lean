/- The document's Put. -/
import Derived.Test.YtmiokopnhkojoaaRCheck
import Derived.Test.YtmiokopnhkojoaaPPut
namespace Go.Proofs.Ytmiokopnhkojoaa
open Go.RowKit
set_option linter.unusedVariables false
set_option linter.unusedSimpArgs false

/-- The boxes of the document's Put: the list, the version, the result. -/
def RuB (w wr : World) (vN vH : Value) (x : En) : Prop :=
  Below w.heap.size w wr ∧ wr.heap[w.heap.size]? = some (.cells #[vN, vH] 25) ∧ wr.heap[w.heap.size + 1]? = some (enObj x) ∧ wr.heap[w.heap.size + 2]? = some (.cells #[.slice none 0 0, .slice none 0 0] 25)
theorem RuB.up {w wr w' : World} {vN vH : Value} {x : En} (h : RuB w wr vN vH x) (hb : Below wr.heap.size wr w') : RuB w w' vN vH x :=
  ⟨up_trans h.1 hb, blk_up h.2.1 hb, blk_up h.2.2.1 hb, blk_up h.2.2.2 hb⟩
/-- Memory above the base may be written. -/
theorem RuB.over {w wl X : World} {vN vH : Value} {x : En} {base : Nat} (h : RuB w wl vN vH x) (hX : Below base wl X) (hb : w.heap.size + 3 ≤ base) (hbl : base ≤ wl.heap.size) : RuB w X vN vH x :=
  ⟨⟨hX.os.trans h.1.os, hX.tape.trans h.1.tape, hX.output.trans h.1.output, Nat.le_trans h.1.size hX.size, fun k hk => (hX.block k (by omega)).trans (h.1.block k hk)⟩, (hX.block _ (by omega)).trans h.2.1, (hX.block _ (by omega)).trans h.2.2.1, (hX.block _ (by omega)).trans h.2.2.2⟩
theorem ones_app {s : Sk} {x : En} (g : Good s) (ht : ∀ k, k < s.nodes.length → twin (s.at' k).1 x = false) : Ones (s.es ++ [x]) := by
  intro i j hi hj hne
  simp only [List.length_append, List.length_cons, List.length_nil, Sk.es_len] at hi hj
  by_cases ci : i < s.es.length
  · rw [eAt_app _ _ _ ci]
    by_cases cj : j < s.es.length
    · rw [eAt_app _ _ _ cj]
      exact g.ones i j ci cj hne
    · obtain rfl : j = s.es.length := by rw [Sk.es_len] at cj ⊢; omega
      rw [eAt_last, Sk.eAt]
      exact ht i (by rw [← Sk.es_len]; exact ci)
  · obtain rfl : i = s.es.length := by rw [Sk.es_len] at ci ⊢; omega
    rw [eAt_last]
    have cj : j < s.es.length := by rw [Sk.es_len] at hne ⊢; omega
    rw [eAt_app _ _ _ cj, Sk.eAt]
    cases q : twin x (s.at' j).1
    · rfl
    · have := ht j (by rw [← Sk.es_len]; exact cj)
      rw [twin_symm q] at this
      cases this

theorem put_good {s t : Sk} {x : En} {h : Nat} (g : Good s) (hx : mayE x = true) (h1 : 1 ≤ h) (h8 : h ≤ 8) (hn : s.nodes.length < 4096) (ht : ∀ k, k < s.nodes.length → twin (s.at' k).1 x = false) (et : t.es = s.es ++ [x]) (eh : t.hs = s.hs ++ [h]) (t8 : t.head.length = 8) (hl : Linked t (orderF (s.es ++ [x]) (s.nodes.length + 1))) : Good t := by
  have hlen : t.nodes.length = s.nodes.length + 1 := by rw [← Sk.es_len, et, List.length_append, Sk.es_len]; rfl
  have hones := ones_app g ht
  have hh : ∀ k, t.h k = (s.hs ++ [h]).getD k 0 := by
    intro k
    rw [← eh]
    by_cases q : k < t.nodes.length
    · simp [Sk.h, Sk.hs, Sk.at', List.getD, q]
    · simp [Sk.h, Sk.hs, Sk.at', List.getD, q]
      rfl
  refine ⟨by omega, t8, fun k hk => ?_, fun k hk => ?_, by rw [et]; exact hones, ?_⟩
  · rw [← Sk.eAt, et]
    by_cases q : k < s.nodes.length
    · rw [eAt_app _ _ _ (by rw [Sk.es_len]; exact q), Sk.eAt]
      exact g.may k q
    · have : k = s.es.length := by rw [Sk.es_len]; omega
      rw [this, eAt_last]
      exact hx
  · rw [hh k]
    by_cases q : k < s.nodes.length
    · have : (s.hs ++ [h]).getD k 0 = s.h k := by
        have hk2 : k < s.hs.length := by simp [Sk.hs, q]
        rw [show (s.hs ++ [h]).getD k 0 = s.hs.getD k 0 by simp only [List.getD, List.getElem?_append_left hk2]]
        simp [List.getD, Sk.hs, Sk.h, Sk.at', q]
      rw [this]
      exact g.high k q
    · have e : k = s.hs.length := by simp [Sk.hs]; omega
      rw [e]
      simp [List.getD]
      exact ⟨h1, h8⟩
  · unfold Sk.ord
    rw [et, hlen]
    exact hl
set_option maxHeartbeats 8000000 in
set_option maxRecDepth 100000 in
theorem refPut_any (s : Sk) (es : List (En × Value)) (vN vH : Value) (x : En) (h : Int) (w : World) (hV : SkE w vN vH s es) :
    Calls Try.prog 10 #[.agg #[vN, vH], enV x, .int .i64 h] w fun e w' => ∃ vN' vH', e = .returned (.tuple #[.agg #[vN', vH'], .int .i64 (errP s x h)]) ∧ (∃ t es', Hid (OwnSk w' w.heap.size 65 vN' vH' t es' ∧ IsPut s x h t)) ∧ Hid (Below w.heap.size w w') := by
  obtain ⟨⟨aN, cN, rfl⟩, ⟨aH, cH, rfl⟩⟩ := hV.form
  have HV : Hid (SkE w (.slice aN s.nodes.length cN) (.slice aH s.head.length cH) s es) := hV
  have h63 : (s.nodes.length : Int) ≤ 9223372036854775807 := by
    obtain ⟨_, _, e, h4, h5⟩ := hV.nodes.len
    have := hV.len
    unfold maxLen at h5
    omega
  clear hV
  unfold enV
  obtain ⟨wa, hwa⟩ : ∃ wa, wa = ((w.alloc (.cells #[.slice aN s.nodes.length cN, .slice aH s.head.length cH] 25)).alloc (enObj x)).alloc (.cells #[.slice none 0 0, .slice none 0 0] 25) := ⟨_, rfl⟩
  have HWA : Hid (((w.alloc (.cells #[.slice aN s.nodes.length cN, .slice aH s.head.length cH] 25)).alloc (enObj x)).alloc (.cells #[.slice none 0 0, .slice none 0 0] 25) = wa) := hwa.symm
  have HB : Hid (RuB w wa (.slice aN s.nodes.length cN) (.slice aH s.head.length cH) x) := by
    have q := blk4 w (.cells #[.slice aN s.nodes.length cN, .slice aH s.head.length cH] 25) (enObj x) (.cells #[.slice none 0 0, .slice none 0 0] 25) (enObj x)
    rw [← hwa] at q
    have u := up_alloc wa (enObj x)
    have hs : wa.heap.size = w.heap.size + 3 := by rw [hwa]; simp
    refine ⟨by rw [hwa]; exact up_al (up_al (up_al (Below.refl _ _) _) _) _, (u.block _ (by omega)).symm.trans q.1, (u.block _ (by omega)).symm.trans q.2.1, (u.block _ (by omega)).symm.trans q.2.2.1⟩
  unfold enObj at HWA
  have p0 : wa.cell? ⟨w.heap.size, 0, none⟩ = some (.slice aN s.nodes.length cN) := blk_cell HB.out.2.1 0 _ rfl
  have p1 : wa.cell? ⟨w.heap.size, 1, none⟩ = some (.slice aH s.head.length cH) := blk_cell HB.out.2.1 1 _ rfl
  have HC := refCheck_any s es _ _ wa (HV.out.up HB.out.1)
  clear hwa
  have HEND : Hid (∀ (wz : World) (code : Int), RuB w wz (.slice aN s.nodes.length cN) (.slice aH s.head.length cH) x → errP s x h = code → code ≠ 0 →
      ((wz.setCell ⟨w.heap.size + 2, 0, none⟩ (.slice none 0 0)).setCell ⟨w.heap.size + 2, 1, none⟩ (.slice none 0 0)).heap[w.heap.size + 2]? = some (.cells #[.slice none 0 0, .slice none 0 0] 25) ∧
      ∃ vN' vH', Ending.returned (.tuple #[.agg #[.slice none 0 0, .slice none 0 0], .int .i64 code]) = .returned (.tuple #[.agg #[vN', vH'], .int .i64 (errP s x h)]) ∧ (∃ t es', Hid (OwnSk ((wz.setCell ⟨w.heap.size + 2, 0, none⟩ (.slice none 0 0)).setCell ⟨w.heap.size + 2, 1, none⟩ (.slice none 0 0)) w.heap.size 65 vN' vH' t es' ∧ IsPut s x h t)) ∧ Hid (Below w.heap.size w ((wz.setCell ⟨w.heap.size + 2, 0, none⟩ (.slice none 0 0)).setCell ⟨w.heap.size + 2, 1, none⟩ (.slice none 0 0)))) := by
    intro wz code hb he hne
    refine ⟨set2_blk hb.2.2.2 _ _, _, _, by rw [he], ⟨⟨[], []⟩, [], noneOwn _ _ _, fun _ => rfl, fun q => absurd (he.symm.trans q) hne⟩, ?_⟩
    exact hb.1.grown (set2_grown wz (w.heap.size + 2) _ _) hb.1.size (fun k hk => by injection hk with hk; rw [← hk]; omega)
  have HCELLS : Hid (∀ wz, RuB w wz (.slice aN s.nodes.length cN) (.slice aH s.head.length cH) x → wz.cell? ⟨w.heap.size + 2, 0, none⟩ = some (.slice none 0 0) ∧ wz.cell? ⟨w.heap.size + 2, 1, none⟩ = some (.slice none 0 0) ∧ wz.frozen? ⟨w.heap.size + 2, 0, none⟩ = false ∧ wz.frozen? ⟨w.heap.size + 2, 1, none⟩ = false) := fun wz hb => ⟨blk_cell hb.2.2.2 0 _ rfl, blk_cell hb.2.2.2 1 _ rfl, blk_frozen hb.2.2.2 0, blk_frozen hb.2.2.2 1⟩
  have HSC : Hid (∀ wz, RuB w wz (.slice aN s.nodes.length cN) (.slice aH s.head.length cH) x → wz.cell? ⟨w.heap.size, 0, none⟩ = some (.slice aN s.nodes.length cN) ∧ wz.cell? ⟨w.heap.size, 1, none⟩ = some (.slice aH s.head.length cH) ∧ wz.cell? ⟨w.heap.size + 1, 0, none⟩ = some (.string x.key) ∧ wz.cell? ⟨w.heap.size + 1, 1, none⟩ = some (.int .i64 x.seq) ∧ wz.cell? ⟨w.heap.size + 1, 2, none⟩ = some (.int .i64 x.kind) ∧ wz.cell? ⟨w.heap.size + 1, 3, none⟩ = some (.string x.val)) := fun wz hb => ⟨blk_cell hb.2.1 0 _ rfl, blk_cell hb.2.1 1 _ rfl, blk_cell hb.2.2.1 0 _ rfl, blk_cell hb.2.2.1 1 _ rfl, blk_cell hb.2.2.1 2 _ rfl, blk_cell hb.2.2.1 3 _ rfl⟩
  go_enter Try.func10, Try.ntmps10
  go_upto_region 1 with fail
  rw [HWA.out]
  clear HWA
  go_wp2_with fail
  refine HC.mono ?_
  rintro e w1 ⟨rfl, U1⟩
  have HB1 : Hid (RuB w w1 (.slice aN s.nodes.length cN) (.slice aH s.head.length cH) x) := HB.out.up U1.out
  clear HC p0 p1 HB U1
  by_cases hG : checkS s = true
  · have e0 : errC s = 0 := by unfold errC; rw [if_pos hG]
    rw [e0]
    have HG : Hid (Good s) := (checkS_iff s).1 hG
    have HCK : Hid (checkS s = true) := hG
    clear hG e0
    obtain ⟨_, _, x0, x1, x2, x3⟩ := HSC.out _ HB1.out
    have HM := refMay_any x w1
    unfold enV at HM
    go_wp2_with fail
    refine HM.mono ?_
    rintro e w2 ⟨rfl, hw2⟩
    have HB2 : Hid (RuB w w2 (.slice aN s.nodes.length cN) (.slice aH s.head.length cH) x) := by rw [hw2]; exact HB1.out.up (up_alloc _ _)
    clear HM hw2 x0 x1 x2 x3 HB1
    obtain ⟨d0, d1, f0, f1⟩ := HCELLS.out _ HB2.out
    cases hm : mayE x
    · have HE : Hid (errP s x h = 1) := by
        unfold Hid errP
        rw [HCK.out, hm]
        simp
      go_wp2_with fail
      obtain ⟨hz1, hz2⟩ := HEND.out w2 1 HB2.out HE.out (by decide)
      exact bodyPost_ret (results_st2 (q := 6) (r := 7) rfl (.inr rfl) _ _ rfl hz1) rfl hz2
    · by_cases hr1 : h < 1
      · have HE : Hid (errP s x h = 4) := by
          unfold Hid errP
          rw [HCK.out, hm, show reachP h = false by simp [reachP]; omega]
          simp
        go_wp2_with fail
        obtain ⟨hz1, hz2⟩ := HEND.out w2 4 HB2.out HE.out (by decide)
        exact bodyPost_ret (results_st2 (q := 6) (r := 7) rfl (.inr rfl) _ _ rfl hz1) rfl hz2
      · by_cases hr2 : 8 < h
        · have HE : Hid (errP s x h = 4) := by
            unfold Hid errP
            rw [HCK.out, hm, show reachP h = false by simp [reachP]; omega]
            simp
          go_wp2_with fail
          obtain ⟨hz1, hz2⟩ := HEND.out w2 4 HB2.out HE.out (by decide)
          exact bodyPost_ret (results_st2 (q := 6) (r := 7) rfl (.inr rfl) _ _ rfl hz1) rfl hz2
        · obtain ⟨hN, rfl⟩ := Int.eq_ofNat_of_zero_le (show 0 ≤ h by omega)
          have HH : Hid (1 ≤ hN ∧ hN ≤ 8) := ⟨by omega, by omega⟩
          have HMY : Hid (mayE x = true) := hm
          have HRC : Hid (reachP (hN : Int) = true) := by unfold Hid; simp [reachP]; omega
          clear d0 d1 f0 f1
          go_wp2_with fail
          go_loopw [8] (fun q wx => ∃ k : Nat, k ≤ s.nodes.length ∧ q = .int .i64 (k : Int) ∧ Hid (∀ j, j < k → twin (s.at' j).1 x = false) ∧ ∃ d, wx = w2.drewN d) (fun q _ => s.nodes.length - (intOf q).toNat)
          case atStart => exact ⟨0, by omega, rfl, fun j hj => by omega, 0, rfl⟩
          case round =>
            obtain ⟨k, hk, rfl, HD, d, rfl⟩ := hrel
            obtain ⟨p0, p1, x0, x1, x2, x3⟩ := HSC.out _ HB2.out
            by_cases hkn : k < s.nodes.length
            · have hkn' : (k : Int) < (s.nodes.length : Int) := by omega
              have hk0 : 0 ≤ (k : Int) := by omega
              obtain ⟨b, off, _, _, rfl, _, _, z0, z1, z2, z3, _⟩ := (HV.out.up HB2.out.1).node k hkn
              have HTW : Hid (twin (s.at' k).1 x = true → errP s x (hN : Int) = 6) := by
                intro ht
                have : s.es.any (fun e => twin e x) = true := (es_any s x).2 ⟨k, hkn, ht⟩
                unfold errP
                rw [HCK.out, HMY.out, HRC.out, this]
                simp
              have HDN : Hid (twin (s.at' k).1 x = false → ∀ j, j < k + 1 → twin (s.at' j).1 x = false) := by
                intro ht j hj
                by_cases e : j = k
                · subst e; exact ht
                · exact HD.out j (by omega)
              generalize hz : (s.at' k).1 = z at *
              clear hz
              by_cases q1 : z.key.toList = x.key.toList
              · have q1' : (z.key.toList == x.key.toList) = true := by simp [q1]
                by_cases q2 : z.seq = x.seq
                · have q2' : (z.seq == x.seq) = true := by simp [q2]
                  have HE : Hid (errP s x (hN : Int) = 6) := HTW.out (by simp [twin, q1, q2])
                  obtain ⟨d0, d1, f0, f1⟩ := HCELLS.out _ HB2.out
                  have HBd : Hid (∀ n, RuB w ((w2.drewN d).drewN n) (.slice (some ⟨b, off, none⟩) s.nodes.length cN) (.slice aH s.head.length cH) x) := fun n => HB2.out.up (below_drewN (below_drewN (Below.refl _ _) d) n)
                  go_wp2_with fail
                  go_quiet (fail)
                  go_wp2_with fail
                  obtain ⟨hz1, hz2⟩ := HEND.out _ 6 (HBd.out nq) HE.out (by decide)
                  rw [drewN_more] at hz1 hz2
                  exact bodyPost_ret (results_st2 (q := 6) (r := 7) rfl (.inr rfl) _ _ rfl hz1) rfl hz2
                · have q2' : (z.seq == x.seq) = false := by simp [q2]
                  have HNH : Hid (∀ j, j < k + 1 → twin (s.at' j).1 x = false) := HDN.out (by simp [twin, q2])
                  go_wp2_with fail
                  go_quiet (fail)
                  go_wp2_with fail
                  exact ⟨⟨k + 1, by omega, by go_num, HNH, d + nq, rfl⟩, by simp [intOf]; omega⟩
              · have q1' : (z.key.toList == x.key.toList) = false := by simp [q1]
                have HNH : Hid (∀ j, j < k + 1 → twin (s.at' j).1 x = false) := HDN.out (by simp [twin, q1])
                go_wp2_with fail
                go_quiet (fail)
                go_wp2_with fail
                exact ⟨⟨k + 1, by omega, by go_num, HNH, d + nq, rfl⟩, by simp [intOf]; omega⟩
            · obtain rfl : k = s.nodes.length := by omega
              clear p0 p1 x0 x1 x2 x3
              obtain ⟨wl, hwl⟩ : ∃ wl, wl = w2.drewN d := ⟨_, rfl⟩
              have HBl : Hid (RuB w wl (.slice aN s.nodes.length cN) (.slice aH s.head.length cH) x) := by rw [hwl]; exact HB2.out.up (below_drewN (Below.refl _ _) d)
              rw [← hwl]
              clear hwl HB2
              have HANY : Hid (s.es.any (fun e => twin e x) = false) := by
                unfold Hid
                cases q : s.es.any (fun e => twin e x)
                · rfl
                · obtain ⟨k2, hk2, ht⟩ := (es_any s x).1 q
                  rw [HD.out k2 hk2] at ht
                  cases ht
              obtain ⟨p0, p1, x0, x1, x2, x3⟩ := HSC.out _ HBl.out
              have h46 : s.nodes.length ≤ 4096 := HG.out.few
              by_cases hf : s.nodes.length = 4096
              · have HE : Hid (errP s x (hN : Int) = 51) := by
                  unfold Hid errP
                  rw [HCK.out, HMY.out, HRC.out, HANY.out, if_pos hf]
                  simp
                obtain ⟨d0, d1, f0, f1⟩ := HCELLS.out _ HBl.out
                have hf2 : (4096 : Int) ≤ (s.nodes.length : Int) := by omega
                have HF : Hid (s.nodes.length = 4096) := hf
                clear hf
                go_wp2_with fail
                obtain ⟨hz1, hz2⟩ := HEND.out _ 51 HBl.out HE.out (by decide)
                exact bodyPost_ret (results_st2 (q := 6) (r := 7) rfl (.inr rfl) _ _ rfl hz1) rfl hz2
              · have hf2 : ¬ (4096 : Int) ≤ (s.nodes.length : Int) := by omega
                have HE : Hid (errP s x (hN : Int) = 0) := by
                  unfold Hid errP
                  rw [HCK.out, HMY.out, HRC.out, HANY.out, if_neg hf]
                  simp
                have HLT : Hid (s.nodes.length < 4096) := by unfold Hid; omega
                have HEL : Hid (es.length = s.nodes.length) := HV.out.len
                have HNR : Hid (Rws 5 wl (.slice aN s.nodes.length cN) (es.map nrow)) := (HV.out.up HBl.out.1).nodes
                have HN1 : Hid (∀ cs ∈ es.map nrow, ∀ u ∈ cs, u.oneCell' = true) := by
                  intro cs hcs u hu
                  obtain ⟨p, hp, rfl⟩ := List.mem_map.1 hcs
                  obtain ⟨k2, hk2⟩ := List.mem_iff_getElem?.1 hp
                  obtain ⟨a2, c2, e2, _⟩ := (HV.out.nexts k2 p hk2).len
                  simp only [nrow, enRow, List.cons_append, List.nil_append, List.mem_cons, List.not_mem_nil, or_false] at hu
                  rcases hu with rfl | rfl | rfl | rfl | rfl
                  · rfl
                  · rfl
                  · rfl
                  · rfl
                  · rw [e2]; rfl
                have HQ1 : Hid (((([] : List (List Value)).length + (es.map nrow).length) + (([] : List (List Value)).length + (es.map nrow).length) / 4 + 192) * 72 ≤ 281474976710656 ∧ ([] : List (List Value)).length + (es.map nrow).length ≤ maxLen) := by
                  have := HEL.out
                  unfold Hid maxLen; simp only [List.length_nil, List.length_map]; omega
                clear hf
                go_wp2_with (at_builtin; refine wpList_append_rows _ rfl _ _ 22 65 _ 5 72 rfl Try.underlying22 Try.info65 rfl (by decide) wl.heap.size (.slice none 0 0) [] rfl (OwnR.nil _ _ _ _) (.slice aN s.nodes.length cN) (es.map nrow) rfl HNR.out HN1.out HQ1.out.1 HQ1.out.2 (Nat.le_refl _) ?_)
                intro vl wv OL GL
                have OL' : OwnR wv wl.heap.size 65 5 vl (es.map nrow) := OL
                obtain ⟨aL, cL, eL, _, _⟩ := (Rws.own OL').len
                rw [List.length_map, HEL.out] at eL
                subst eL
                have HOL : Hid (OwnR wv wl.heap.size 65 5 (.slice aL s.nodes.length cL) (es.map nrow)) := OL'
                have HUL : Hid (Below wl.heap.size wl wv) := Below.none GL rfl
                clear OL OL' GL p0 p1 x0 x1 x2 x3 HNR HN1 HQ1
                have HBv : Hid (RuB w wv (.slice aN s.nodes.length cN) (.slice aH s.head.length cH) x) := HBl.out.up HUL.out
                have HW3 : Hid (w.heap.size + 3 ≤ wl.heap.size) := by have := blk_lt HBl.out.2.2.2; unfold Hid; omega
                obtain ⟨p0, p1, x0, x1, x2, x3⟩ := HSC.out _ HBv.out
                -- worlds over the base
                have HOV : Hid (∀ X, Below wl.heap.size wl X → RuB w X (.slice aN s.nodes.length cN) (.slice aH s.head.length cH) x ∧ SkE X (.slice aN s.nodes.length cN) (.slice aH s.head.length cH) s es) := fun X hX => ⟨HBl.out.over hX HW3.out (Nat.le_refl _), HV.out.up (HBl.out.over hX HW3.out (Nat.le_refl _)).1⟩
                have UA : Hid (Below wv.heap.size wv ((wv.alloc (.cells #[.string x.key, .int .i64 x.seq, .int .i64 x.kind, .string x.val, .slice none 0 0] 65)).drew)) := up_dr (up_al (Below.refl _ _) _)
                have UA2 : Hid (Below wv.heap.size wv (((wv.alloc (.cells #[.string x.key, .int .i64 x.seq, .int .i64 x.kind, .string x.val, .slice none 0 0] 65)).alloc (.cells #[.int .i64 (hN : Int)] 3)).drew)) := up_dr (up_al (up_al (Below.refl _ _) _) _)
                have UB : Hid (Below wv.heap.size wv (((wv.alloc (.cells #[.int .i64 (hN : Int)] 3)).alloc (.cells #[.string x.key, .int .i64 x.seq, .int .i64 x.kind, .string x.val, .slice none 0 0] 65)).drew)) := up_dr (up_al (up_al (Below.refl _ _) _) _)
                have OA : Hid (OwnR ((wv.alloc (.cells #[.string x.key, .int .i64 x.seq, .int .i64 x.kind, .string x.val, .slice none 0 0] 65)).drew) wl.heap.size 65 5 (.slice aL s.nodes.length cL) (es.map nrow)) := HOL.out.up UA.out
                have OA2 : Hid (OwnR (((wv.alloc (.cells #[.string x.key, .int .i64 x.seq, .int .i64 x.kind, .string x.val, .slice none 0 0] 65)).alloc (.cells #[.int .i64 (hN : Int)] 3)).drew) wl.heap.size 65 5 (.slice aL s.nodes.length cL) (es.map nrow)) := HOL.out.up UA2.out
                have OB : Hid (OwnR (((wv.alloc (.cells #[.int .i64 (hN : Int)] 3)).alloc (.cells #[.string x.key, .int .i64 x.seq, .int .i64 x.kind, .string x.val, .slice none 0 0] 65)).drew) wl.heap.size 65 5 (.slice aL s.nodes.length cL) (es.map nrow)) := HOL.out.up UB.out
                have RA : Hid (Rws 5 ((wv.alloc (.cells #[.string x.key, .int .i64 x.seq, .int .i64 x.kind, .string x.val, .slice none 0 0] 65)).drew) (.slice (some ⟨wv.heap.size, 0, none⟩) 1 1) [nrow (x, Value.slice none 0 0)]) := (Rws.made (sz := 5) wv 65 [nrow (x, Value.slice none 0 0)] (by simp [nrow, enRow]) (by simp [maxLen])).up (up_dr (Below.refl _ _))
                have RA2 : Hid (Rws 5 (((wv.alloc (.cells #[.string x.key, .int .i64 x.seq, .int .i64 x.kind, .string x.val, .slice none 0 0] 65)).alloc (.cells #[.int .i64 (hN : Int)] 3)).drew) (.slice (some ⟨wv.heap.size, 0, none⟩) 1 1) [nrow (x, Value.slice none 0 0)]) := (Rws.made (sz := 5) wv 65 [nrow (x, Value.slice none 0 0)] (by simp [nrow, enRow]) (by simp [maxLen])).up (up_dr (up_al (Below.refl _ _) _))
                have RB : Hid (Rws 5 (((wv.alloc (.cells #[.int .i64 (hN : Int)] 3)).alloc (.cells #[.string x.key, .int .i64 x.seq, .int .i64 x.kind, .string x.val, .slice none 0 0] 65)).drew) (.slice (some ⟨wv.heap.size + 1, 0, none⟩) 1 1) [nrow (x, Value.slice none 0 0)]) := by
                  have := (Rws.made (sz := 5) (wv.alloc (.cells #[.int .i64 (hN : Int)] 3)) 65 [nrow (x, Value.slice none 0 0)] (by simp [nrow, enRow]) (by simp [maxLen])).up (up_dr (Below.refl _ _))
                  have e : (wv.alloc (.cells #[.int .i64 (hN : Int)] 3)).heap.size = wv.heap.size + 1 := by simp
                  rw [e] at this
                  exact this
                have QA2 : Hid (Rws 1 (((wv.alloc (.cells #[.string x.key, .int .i64 x.seq, .int .i64 x.kind, .string x.val, .slice none 0 0] 65)).alloc (.cells #[.int .i64 (hN : Int)] 3)).drew) (.slice (some ⟨wv.heap.size + 1, 0, none⟩) 1 1) [irow (hN : Int)]) := by
                  have := (Rws.made (sz := 1) (wv.alloc (.cells #[.string x.key, .int .i64 x.seq, .int .i64 x.kind, .string x.val, .slice none 0 0] 65)) 3 [irow (hN : Int)] (by simp [irow]) (by simp [maxLen])).up (up_dr (Below.refl _ _))
                  have e : (wv.alloc (.cells #[.string x.key, .int .i64 x.seq, .int .i64 x.kind, .string x.val, .slice none 0 0] 65)).heap.size = wv.heap.size + 1 := by simp
                  rw [e] at this
                  exact this
                have QB : Hid (Rws 1 (((wv.alloc (.cells #[.int .i64 (hN : Int)] 3)).alloc (.cells #[.string x.key, .int .i64 x.seq, .int .i64 x.kind, .string x.val, .slice none 0 0] 65)).drew) (.slice (some ⟨wv.heap.size, 0, none⟩) 1 1) [irow (hN : Int)]) := (Rws.made (sz := 1) wv 3 [irow (hN : Int)] (by simp [irow]) (by simp [maxLen])).up (up_dr (up_al (Below.refl _ _) _))
                have QN : Hid (∀ W : World, Rws 1 (W.alloc (.cells #[.int .i64 (hN : Int)] 3)) (.slice (some ⟨W.heap.size, 0, none⟩) 1 1) [irow (hN : Int)]) := fun W => Rws.made (sz := 1) W 3 [irow (hN : Int)] (by simp [irow]) (by simp [maxLen])
                have HB4 : Hid (((es.map nrow).length + [nrow (x, Value.slice none 0 0)].length + ((es.map nrow).length + [nrow (x, Value.slice none 0 0)].length) / 4 + 192) * 72 ≤ 281474976710656 ∧ (es.map nrow).length + [nrow (x, Value.slice none 0 0)].length ≤ maxLen) := by
                  have := HEL.out
                  unfold Hid maxLen; simp only [List.length_map, List.length_cons, List.length_nil]; omega
                have HB9 : Hid ((((s.hs.map castI).map irow).length + [irow (hN : Int)].length + (((s.hs.map castI).map irow).length + [irow (hN : Int)].length) / 4 + 192) * 8 ≤ 281474976710656 ∧ ((s.hs.map castI).map irow).length + [irow (hN : Int)].length ≤ maxLen) := by
                  have : s.hs.length = s.nodes.length := by simp [Sk.hs]
                  unfold Hid maxLen; simp only [List.length_map, List.length_cons, List.length_nil]; omega
                have HRO : Hid (∀ cs ∈ [nrow (x, Value.slice none 0 0)], ∀ u ∈ cs, u.oneCell' = true) := nrow_one (w := w) x none 0 0
                have HIO : Hid (∀ cs ∈ [irow (hN : Int)], ∀ u ∈ cs, u.oneCell' = true) := one_int [(hN : Int)]
                have HSZ : Hid (∀ X, Below wv.heap.size wv X → wl.heap.size ≤ X.heap.size) := fun X hX => Nat.le_trans HUL.out.size hX.size
                -- behind the nodes' append
                have G4 : Hid (∀ (X w4 : World) (v4 : Value), Below wv.heap.size wv X → X.grownBy w4 (Value.ownBlock (.slice aL s.nodes.length cL)) → OwnR w4 wl.heap.size 65 5 v4 (es.map nrow ++ [nrow (x, Value.slice none 0 0)]) → ∃ a4 c4, v4 = .slice a4 (s.nodes.length + 1) c4 ∧ w4.cell? ⟨w.heap.size, 0, none⟩ = some (.slice aN s.nodes.length cN) ∧ w4.cell? ⟨w.heap.size, 1, none⟩ = some (.slice aH s.head.length cH) ∧ w4.cell? ⟨w.heap.size + 1, 0, none⟩ = some (.string x.key) ∧ w4.cell? ⟨w.heap.size + 1, 1, none⟩ = some (.int .i64 x.seq) ∧ w4.cell? ⟨w.heap.size + 1, 2, none⟩ = some (.int .i64 x.kind) ∧ w4.cell? ⟨w.heap.size + 1, 3, none⟩ = some (.string x.val) ∧ Hid (OwnR w4 wl.heap.size 65 5 (.slice a4 (s.nodes.length + 1) c4) (es.map nrow ++ [nrow (x, Value.slice none 0 0)]) ∧ Below wl.heap.size wl w4)) := by
                  intro X w4 v4 hX hg ho
                  obtain ⟨a4, c4, e4, _, _⟩ := (Rws.own ho).len
                  simp only [List.length_append, List.length_map, List.length_cons, List.length_nil] at e4
                  rw [HEL.out] at e4
                  subst e4
                  have hb : Below wl.heap.size wl w4 := (up_trans HUL.out hX).grown hg (HSZ.out X hX) (fun q hq => ((HOL.out.up hX).2.lt q hq).1)
                  obtain ⟨k0, k1, k2, k3, k4, k5⟩ := HSC.out _ (HOV.out w4 hb).1
                  exact ⟨a4, c4, rfl, k0, k1, k2, k3, k4, k5, ho, hb⟩
                have Q4 : Hid (∀ (X w4 : World) (N8 : Nat), wv.heap.size ≤ N8 → Below wv.heap.size wv X → X.grownBy w4 (Value.ownBlock (.slice aL s.nodes.length cL)) → Rws 1 X (.slice (some ⟨N8, 0, none⟩) 1 1) [irow (hN : Int)] → Rws 1 w4 (.slice (some ⟨N8, 0, none⟩) 1 1) [irow (hN : Int)]) := by
                  intro X w4 N8 hN8 hX hg hr
                  refine hr.far hg (fun b2 hb2 _ q => ?_)
                  have h1 := (HOL.out.2.lt b2 q.symm).2
                  simp only [Value.ownBlock, Option.some.injEq] at hb2
                  omega
                -- the heights
                have H6 : Hid (∀ X, Below wl.heap.size wl X → Calls Try.prog 34 #[.agg #[.slice aN s.nodes.length cN, .slice aH s.head.length cH]] X fun e w6 => ∃ a6 c6, e = .returned (.slice a6 s.nodes.length c6) ∧ w6.cell? ⟨w.heap.size, 0, none⟩ = some (.slice aN s.nodes.length cN) ∧ w6.cell? ⟨w.heap.size, 1, none⟩ = some (.slice aH s.head.length cH) ∧ w6.cell? ⟨w.heap.size + 1, 0, none⟩ = some (.string x.key) ∧ w6.cell? ⟨w.heap.size + 1, 1, none⟩ = some (.int .i64 x.seq) ∧ w6.cell? ⟨w.heap.size + 1, 2, none⟩ = some (.int .i64 x.kind) ∧ w6.cell? ⟨w.heap.size + 1, 3, none⟩ = some (.string x.val) ∧ Hid (OwnR w6 wl.heap.size 3 1 (.slice a6 s.nodes.length c6) ((s.hs.map castI).map irow) ∧ OwnR w6 X.heap.size 3 1 (.slice a6 s.nodes.length c6) ((s.hs.map castI).map irow) ∧ Below X.heap.size X w6 ∧ Below wl.heap.size wl w6)) := by
                  intro X hX
                  have hVX := (HOV.out X hX).2
                  have hh := heights_any es aN cN (.slice aH s.head.length cH) X (by rw [HEL.out]; exact hVX.nodes) (fun p hp => by
                    obtain ⟨k, hk⟩ := List.mem_iff_getElem?.1 hp
                    obtain ⟨a, c, e, _⟩ := (hVX.nexts k p hk).len
                    exact ⟨a, _, c, e⟩) (by rw [HEL.out]; exact h46)
                  rw [HEL.out] at hh
                  refine hh.mono ?_
                  rintro e w6 ⟨a6, c6, rfl, ho, hu⟩
                  have hb : Below wl.heap.size wl w6 := hX.trans ⟨hu.out.os, hu.out.tape, hu.out.output, hu.out.size, fun q hq => hu.out.block q (by have := hX.size; omega)⟩
                  have ho2 := ho.out
                  rw [hVX.heights] at ho2
                  obtain ⟨k0, k1, k2, k3, k4, k5⟩ := HSC.out _ (HOV.out w6 hb).1
                  exact ⟨a6, c6, rfl, k0, k1, k2, k3, k4, k5, ho2.mono hX.size, ho2, hu.out, hb⟩
                -- behind the heights' append
                have G9 : Hid (∀ (X w9 : World) (v9 : Value) (a4 : Option Addr) (c4 : Nat) (a6 : Option Addr) (c6 : Nat), Below wl.heap.size wl X → OwnR X wl.heap.size 65 5 (.slice a4 (s.nodes.length + 1) c4) (es.map nrow ++ [nrow (x, Value.slice none 0 0)]) → OwnR X wl.heap.size 3 1 (.slice a6 s.nodes.length c6) ((s.hs.map castI).map irow) → X.grownBy w9 (Value.ownBlock (.slice a6 s.nodes.length c6)) → OwnR w9 wl.heap.size 3 1 v9 ((s.hs.map castI).map irow ++ [irow (hN : Int)]) → ∃ a9 c9, v9 = .slice a9 (s.nodes.length + 1) c9 ∧ w9.cell? ⟨w.heap.size, 0, none⟩ = some (.slice aN s.nodes.length cN) ∧ w9.cell? ⟨w.heap.size, 1, none⟩ = some (.slice aH s.head.length cH) ∧ w9.cell? ⟨w.heap.size + 1, 0, none⟩ = some (.string x.key) ∧ w9.cell? ⟨w.heap.size + 1, 1, none⟩ = some (.int .i64 x.seq) ∧ w9.cell? ⟨w.heap.size + 1, 2, none⟩ = some (.int .i64 x.kind) ∧ w9.cell? ⟨w.heap.size + 1, 3, none⟩ = some (.string x.val) ∧ Hid (NodesE w9 (.slice a4 (s.nodes.length + 1) c4) (es ++ [(x, .slice none 0 0)]) ∧ IntsR w9 (.slice a9 (s.nodes.length + 1) c9) ((s.hs ++ [hN]).map castI) ∧ Below wl.heap.size wl w9)) := by
                  intro X w9 v9 a4 c4 a6 c6 hX h4 h6 hg ho
                  obtain ⟨a9, c9, e9, _, _⟩ := (Rws.own ho).len
                  have hhl : s.hs.length = s.nodes.length := by simp [Sk.hs]
                  simp only [List.length_append, List.length_map, List.length_cons, List.length_nil] at e9
                  rw [hhl] at e9
                  subst e9
                  have hb : Below wl.heap.size wl w9 := hX.grown hg hX.size (fun q hq => (h6.2.lt q hq).1)
                  obtain ⟨k0, k1, k2, k3, k4, k5⟩ := HSC.out _ (HOV.out w9 hb).1
                  refine ⟨a9, c9, rfl, k0, k1, k2, k3, k4, k5, ?_, ?_, hb⟩
                  · have := Rws.own (h4.far hg (own_own_ne h4.2 h6.2 (by decide)))
                    unfold NodesE
                    rw [List.map_append]
                    exact this
                  · have := Rws.own ho
                    unfold IntsR
                    rw [List.map_append, List.map_append]
                    exact this
                -- ways
                have H10 : Hid (∀ X a4 c4 a9 c9, NodesE X (.slice a4 (s.nodes.length + 1) c4) (es ++ [(x, .slice none 0 0)]) ∧ IntsR X (.slice a9 (s.nodes.length + 1) c9) ((s.hs ++ [hN]).map castI) ∧ Below wl.heap.size wl X → Calls Try.prog 33 #[.slice a4 (s.nodes.length + 1) c4, .slice a9 (s.nodes.length + 1) c9] X fun e w10 => ∃ b1 m1 g1 b2 m2 g2, e = .returned (.agg #[.slice b1 m1 g1, .slice b2 m2 g2]) ∧ w10.cell? ⟨w.heap.size, 0, none⟩ = some (.slice aN s.nodes.length cN) ∧ w10.cell? ⟨w.heap.size, 1, none⟩ = some (.slice aH s.head.length cH) ∧ w10.cell? ⟨w.heap.size + 1, 0, none⟩ = some (.string x.key) ∧ w10.cell? ⟨w.heap.size + 1, 1, none⟩ = some (.int .i64 x.seq) ∧ w10.cell? ⟨w.heap.size + 1, 2, none⟩ = some (.int .i64 x.kind) ∧ w10.cell? ⟨w.heap.size + 1, 3, none⟩ = some (.string x.val) ∧ w10.cell? ⟨w.heap.size + 2, 0, none⟩ = some (.slice none 0 0) ∧ w10.cell? ⟨w.heap.size + 2, 1, none⟩ = some (.slice none 0 0) ∧ w10.frozen? ⟨w.heap.size + 2, 0, none⟩ = false ∧ w10.frozen? ⟨w.heap.size + 2, 1, none⟩ = false ∧ Hid ((∃ t es', OwnSk w10 w.heap.size 65 (.slice b1 m1 g1) (.slice b2 m2 g2) t es' ∧ IsPut s x (hN : Int) t) ∧ RuB w w10 (.slice aN s.nodes.length cN) (.slice aH s.head.length cH) x)) := by
                  intro X a4 c4 a9 c9 hX
                  have hlen : (es ++ [(x, Value.slice none 0 0)]).length = s.nodes.length + 1 := by simp [HEL.out]
                  have hhl : s.hs.length = s.nodes.length := by simp [Sk.hs]
                  have hee : (es ++ [(x, Value.slice none 0 0)]).map (·.1) = s.es ++ [x] := by rw [List.map_append, HV.out.ents]; rfl
                  have hw := refWays_any (es ++ [(x, .slice none 0 0)]) (s.hs ++ [hN]) a4 c4 a9 c9 X (by rw [hlen]; exact hX.1) (by rw [hlen]; exact hX.2.1) (by rw [hlen]; simp [hhl]) (by rw [hlen]; have := HLT.out; omega) (by
                    intro hh hm
                    rcases List.mem_append.1 hm with q | q
                    · obtain ⟨nd, hnd, rfl⟩ := List.mem_map.1 q
                      obtain ⟨k, hk⟩ := List.mem_iff_getElem?.1 hnd
                      have hk' := (List.getElem?_eq_some_iff.1 hk).1
                      have := (HG.out.high k hk').2
                      have e : s.at' k = nd := by simp [Sk.at', List.getD, hk]
                      unfold Sk.h at this
                      rw [e] at this
                      exact this
                    · simp at q
                      rw [q]
                      exact HH.out.2) (by rw [hee]; exact ones_app HG.out (fun k hk => HD.out k hk))
                  rw [hlen, hee] at hw
                  refine hw.mono ?_
                  rintro e w10 ⟨vN', vH', rfl, ⟨t, es', ho⟩, hu⟩
                  obtain ⟨⟨b1, g1, rfl⟩, ⟨b2, g2, rfl⟩⟩ := ho.out.1.read.form
                  have hb : Below wl.heap.size wl w10 := hX.2.2.trans ⟨hu.out.os, hu.out.tape, hu.out.output, hu.out.size, fun q hq => hu.out.block q (by have := hX.2.2.size; omega)⟩
                  have hR := (HOV.out w10 hb).1
                  obtain ⟨k0, k1, k2, k3, k4, k5⟩ := HSC.out _ hR
                  obtain ⟨d0, d1, f0, f1⟩ := HCELLS.out _ hR
                  have hg := put_good HG.out HMY.out HH.out.1 HH.out.2 HLT.out (fun k hk => HD.out k hk) ho.out.2.1 ho.out.2.2.1 ho.out.2.2.2.1 ho.out.2.2.2.2
                  refine ⟨b1, _, g1, b2, _, g2, rfl, k0, k1, k2, k3, k4, k5, d0, d1, f0, f1, ⟨t, es', ho.out.1.mono ?_, fun q => absurd HE.out q, fun _ => ⟨hg, ho.out.2.1, by rw [ho.out.2.2.1]; simp⟩⟩, hR⟩
                  have := hX.2.2.size
                  have := HW3.out
                  omega
                have m0 := fun o => ((up_dr (up_al (Below.refl wv.heap.size wv) o)).cell (World.block_lt_of_cell? _ _ p0)).trans p0
                have m1 := fun o => ((up_dr (up_al (Below.refl wv.heap.size wv) o)).cell (World.block_lt_of_cell? _ _ p1)).trans p1
                have m2 := fun o => ((up_dr (up_al (Below.refl wv.heap.size wv) o)).cell (World.block_lt_of_cell? _ _ x0)).trans x0
                have m3 := fun o => ((up_dr (up_al (Below.refl wv.heap.size wv) o)).cell (World.block_lt_of_cell? _ _ x1)).trans x1
                have m4 := fun o => ((up_dr (up_al (Below.refl wv.heap.size wv) o)).cell (World.block_lt_of_cell? _ _ x2)).trans x2
                have m5 := fun o => ((up_dr (up_al (Below.refl wv.heap.size wv) o)).cell (World.block_lt_of_cell? _ _ x3)).trans x3
                have l0 := fun o p => ((up_dr (up_al (up_al (Below.refl wv.heap.size wv) o) p)).cell (World.block_lt_of_cell? _ _ p0)).trans p0
                have l1 := fun o p => ((up_dr (up_al (up_al (Below.refl wv.heap.size wv) o) p)).cell (World.block_lt_of_cell? _ _ p1)).trans p1
                have l2 := fun o p => ((up_dr (up_al (up_al (Below.refl wv.heap.size wv) o) p)).cell (World.block_lt_of_cell? _ _ x0)).trans x0
                have l3 := fun o p => ((up_dr (up_al (up_al (Below.refl wv.heap.size wv) o) p)).cell (World.block_lt_of_cell? _ _ x1)).trans x1
                have l4 := fun o p => ((up_dr (up_al (up_al (Below.refl wv.heap.size wv) o) p)).cell (World.block_lt_of_cell? _ _ x2)).trans x2
                have l5 := fun o p => ((up_dr (up_al (up_al (Below.refl wv.heap.size wv) o) p)).cell (World.block_lt_of_cell? _ _ x3)).trans x3
                go_upto_region 16 with fail
                refine wp_region_held_drew (S := (fun w' => w'.cell? ⟨w.heap.size, 0, none⟩ = some (.slice aN s.nodes.length cN) ∧ w'.cell? ⟨w.heap.size, 1, none⟩ = some (.slice aH s.head.length cH) ∧ w'.cell? ⟨w.heap.size + 1, 0, none⟩ = some (.string x.key) ∧ w'.cell? ⟨w.heap.size + 1, 1, none⟩ = some (.int .i64 x.seq) ∧ w'.cell? ⟨w.heap.size + 1, 2, none⟩ = some (.int .i64 x.kind) ∧ w'.cell? ⟨w.heap.size + 1, 3, none⟩ = some (.string x.val))) (by kernel_rfl) (by (try dsimp only); first | with_reducible exact ⟨r0, r1, r2, r3, r4, r5⟩ | with_reducible exact ⟨t0, t1, t2, t3, t4, t5⟩ | with_reducible exact ⟨u0, u1, u2, u3, u4, u5⟩ | with_reducible exact ⟨cell_al _ u0, cell_al _ u1, cell_al _ u2, cell_al _ u3, cell_al _ u4, cell_al _ u5⟩ | with_reducible exact ⟨v0, v1, v2, v3, v4, v5⟩ | with_reducible exact ⟨cell_al _ v0, cell_al _ v1, cell_al _ v2, cell_al _ v3, cell_al _ v4, cell_al _ v5⟩ | with_reducible exact ⟨m0 _, m1 _, m2 _, m3 _, m4 _, m5 _⟩ | with_reducible exact ⟨l0 _ _, l1 _ _, l2 _ _, l3 _ _, l4 _ _, l5 _ _⟩ | (simp [go_sem, r0, r1, r2, r3, r4, r5]; done) | (simp [go_sem, p0, p1, x0, x1, x2, x3]; done)) (fun hHeld => ?_)
                refine wpAnyH_take (i := 0) (v := ?_) rfl (by kernel_rfl) (by kernel_rfl) (by kernel_rfl) (fun _ _ _ h => h) (Or.inl ⟨by kernel_rfl, ?_⟩) (by assumption) ?_
                rotate_left
                focus (intro w hSw; (try dsimp only at hSw); go_simp; (try with_reducible rfl); done)
                try simp only [Act.put, List.getElem_toArray, List.getElem_cons_zero, List.getElem_cons_succ, List.setIfInBounds_toArray, List.set_cons_zero, List.set_cons_succ]
                refine wpAnyH_take (i := 1) (v := ?_) rfl (by kernel_rfl) (by kernel_rfl) (by kernel_rfl) (fun _ _ _ h => h) (Or.inl ⟨by kernel_rfl, ?_⟩) (by assumption) ?_
                rotate_left
                focus (intro w hSw; (try dsimp only at hSw); go_simp; (try with_reducible rfl); done)
                try simp only [Act.put, List.getElem_toArray, List.getElem_cons_zero, List.getElem_cons_succ, List.setIfInBounds_toArray, List.set_cons_zero, List.set_cons_succ]
                refine wpAnyH_take (i := 2) (v := ?_) rfl (by kernel_rfl) (by kernel_rfl) (by kernel_rfl) (fun _ _ _ h => h) (Or.inl ⟨by kernel_rfl, ?_⟩) (by assumption) ?_
                rotate_left
                focus (intro w hSw; (try dsimp only at hSw); go_simp; (try with_reducible rfl); done)
                try simp only [Act.put, List.getElem_toArray, List.getElem_cons_zero, List.getElem_cons_succ, List.setIfInBounds_toArray, List.set_cons_zero, List.set_cons_succ]
                refine wpAnyH_take (i := 5) (v := ?_) rfl (by kernel_rfl) (by kernel_rfl) (by kernel_rfl) (fun _ _ _ h => h) (Or.inl ⟨by kernel_rfl, ?_⟩) (by assumption) ?_
                rotate_left
                focus (intro w hSw; (try dsimp only at hSw); go_simp; (try with_reducible rfl); done)
                try simp only [Act.put, List.getElem_toArray, List.getElem_cons_zero, List.getElem_cons_succ, List.setIfInBounds_toArray, List.set_cons_zero, List.set_cons_succ]
                refine wpAnyH_take (i := 7) (v := ?_) rfl (by kernel_rfl) (by kernel_rfl) (by kernel_rfl) (fun _ _ _ h => h) (Or.inl ⟨by kernel_rfl, ?_⟩) (by assumption) ?_
                rotate_left
                focus (intro w hSw; (try dsimp only at hSw); go_simp; (try with_reducible rfl); done)
                try simp only [Act.put, List.getElem_toArray, List.getElem_cons_zero, List.getElem_cons_succ, List.setIfInBounds_toArray, List.set_cons_zero, List.set_cons_succ]
                refine wpAnyH_ready (rs := [3, 8]) (by kernel_rfl) (by simp) ?_
                refine AllReadyH.cons rfl (fun K hK => ?_) (AllReadyH.cons rfl (fun K hK => ?_) AllReadyH.nil)
                · skip
                  go_simp
                  refine hK.out _ _ (by (try dsimp only); first | with_reducible exact ⟨r0, r1, r2, r3, r4, r5⟩ | with_reducible exact ⟨t0, t1, t2, t3, t4, t5⟩ | with_reducible exact ⟨u0, u1, u2, u3, u4, u5⟩ | with_reducible exact ⟨cell_al _ u0, cell_al _ u1, cell_al _ u2, cell_al _ u3, cell_al _ u4, cell_al _ u5⟩ | with_reducible exact ⟨v0, v1, v2, v3, v4, v5⟩ | with_reducible exact ⟨cell_al _ v0, cell_al _ v1, cell_al _ v2, cell_al _ v3, cell_al _ v4, cell_al _ v5⟩ | with_reducible exact ⟨m0 _, m1 _, m2 _, m3 _, m4 _, m5 _⟩ | with_reducible exact ⟨l0 _ _, l1 _ _, l2 _ _, l3 _ _, l4 _ _, l5 _ _⟩ | (simp [go_sem, r0, r1, r2, r3, r4, r5]; done) | (simp [go_sem, p0, p1, x0, x1, x2, x3]; done)) (fun hHeld => ?_)
                  clear hK K
                  try simp only [Act.put, List.getElem_toArray, List.getElem_cons_zero, List.getElem_cons_succ, List.setIfInBounds_toArray, List.set_cons_zero, List.set_cons_succ]
                  refine wpAnyH_ready (rs := [4, 8]) (by kernel_rfl) (by simp) ?_
                  refine AllReadyH.cons rfl (fun K hK => ?_) (AllReadyH.cons rfl (fun K hK => ?_) AllReadyH.nil)
                  · skip
                    refine step_append_rows _ rfl (.tmp 67) (.tmp 70) 22 65 _ 5 72 rfl Try.underlying22 Try.info65 rfl (by decide) wl.heap.size (.slice aL s.nodes.length cL) (es.map nrow) rfl OA.out _ [nrow (x, Value.slice none 0 0)] rfl RA.out HRO.out HB4.out.1 HB4.out.2 (HSZ.out _ UA.out) ?_
                    intro vv4 w4 o4 g4
                    obtain ⟨a4, c4, rfl, v0, v1, v2, v3, v4, v5, h4⟩ := G4.out _ _ _ UA.out g4 o4
                    refine hK.out _ _ (by (try dsimp only); first | with_reducible exact ⟨r0, r1, r2, r3, r4, r5⟩ | with_reducible exact ⟨t0, t1, t2, t3, t4, t5⟩ | with_reducible exact ⟨u0, u1, u2, u3, u4, u5⟩ | with_reducible exact ⟨cell_al _ u0, cell_al _ u1, cell_al _ u2, cell_al _ u3, cell_al _ u4, cell_al _ u5⟩ | with_reducible exact ⟨v0, v1, v2, v3, v4, v5⟩ | with_reducible exact ⟨cell_al _ v0, cell_al _ v1, cell_al _ v2, cell_al _ v3, cell_al _ v4, cell_al _ v5⟩ | with_reducible exact ⟨m0 _, m1 _, m2 _, m3 _, m4 _, m5 _⟩ | with_reducible exact ⟨l0 _ _, l1 _ _, l2 _ _, l3 _ _, l4 _ _, l5 _ _⟩ | (simp [go_sem, r0, r1, r2, r3, r4, r5]; done) | (simp [go_sem, p0, p1, x0, x1, x2, x3]; done)) (fun hHeld => ?_)
                    clear hK K
                    try simp only [Act.put, List.getElem_toArray, List.getElem_cons_zero, List.getElem_cons_succ, List.setIfInBounds_toArray, List.set_cons_zero, List.set_cons_succ]
                    refine wpAnyH_ready (rs := [6, 8]) (by kernel_rfl) (by simp) ?_
                    refine AllReadyH.cons rfl (fun K hK => ?_) (AllReadyH.cons rfl (fun K hK => ?_) AllReadyH.nil)
                    · skip
                      go_simp
                      refine (H6.out w4 (h4.out.2)).mono ?_
                      rintro e w6 ⟨a6, c6, rfl, u0, u1, u2, u3, u4, u5, h6⟩
                      go_wp2_with fail
                      refine hK.out _ _ (by (try dsimp only); first | with_reducible exact ⟨r0, r1, r2, r3, r4, r5⟩ | with_reducible exact ⟨t0, t1, t2, t3, t4, t5⟩ | with_reducible exact ⟨u0, u1, u2, u3, u4, u5⟩ | with_reducible exact ⟨cell_al _ u0, cell_al _ u1, cell_al _ u2, cell_al _ u3, cell_al _ u4, cell_al _ u5⟩ | with_reducible exact ⟨v0, v1, v2, v3, v4, v5⟩ | with_reducible exact ⟨cell_al _ v0, cell_al _ v1, cell_al _ v2, cell_al _ v3, cell_al _ v4, cell_al _ v5⟩ | with_reducible exact ⟨m0 _, m1 _, m2 _, m3 _, m4 _, m5 _⟩ | with_reducible exact ⟨l0 _ _, l1 _ _, l2 _ _, l3 _ _, l4 _ _, l5 _ _⟩ | (simp [go_sem, r0, r1, r2, r3, r4, r5]; done) | (simp [go_sem, p0, p1, x0, x1, x2, x3]; done)) (fun hHeld => ?_)
                      clear hK K
                      try simp only [Act.put, List.getElem_toArray, List.getElem_cons_zero, List.getElem_cons_succ, List.setIfInBounds_toArray, List.set_cons_zero, List.set_cons_succ]
                      refine wpAnyH_ready (rs := [8]) (by kernel_rfl) (by simp) ?_
                      refine AllReadyH.cons rfl (fun K hK => ?_) AllReadyH.nil
                      go_simp
                      refine hK.out _ _ (by (try dsimp only); first | with_reducible exact ⟨r0, r1, r2, r3, r4, r5⟩ | with_reducible exact ⟨t0, t1, t2, t3, t4, t5⟩ | with_reducible exact ⟨u0, u1, u2, u3, u4, u5⟩ | with_reducible exact ⟨cell_al _ u0, cell_al _ u1, cell_al _ u2, cell_al _ u3, cell_al _ u4, cell_al _ u5⟩ | with_reducible exact ⟨v0, v1, v2, v3, v4, v5⟩ | with_reducible exact ⟨cell_al _ v0, cell_al _ v1, cell_al _ v2, cell_al _ v3, cell_al _ v4, cell_al _ v5⟩ | with_reducible exact ⟨m0 _, m1 _, m2 _, m3 _, m4 _, m5 _⟩ | with_reducible exact ⟨l0 _ _, l1 _ _, l2 _ _, l3 _ _, l4 _ _, l5 _ _⟩ | (simp [go_sem, r0, r1, r2, r3, r4, r5]; done) | (simp [go_sem, p0, p1, x0, x1, x2, x3]; done)) (fun hHeld => ?_)
                      clear hK K
                      try simp only [Act.put, List.getElem_toArray, List.getElem_cons_zero, List.getElem_cons_succ, List.setIfInBounds_toArray, List.set_cons_zero, List.set_cons_succ]
                      refine wpAnyH_ready (rs := [9]) (by kernel_rfl) (by simp) ?_
                      refine AllReadyH.cons rfl (fun K hK => ?_) AllReadyH.nil
                      refine step_append_rows _ rfl (.tmp 73) (.tmp 75) 23 3 _ 1 8 rfl Try.underlying23 Try.info3 rfl (by decide) wl.heap.size (.slice a6 s.nodes.length c6) ((s.hs.map castI).map irow) rfl (h6.out.1.up (up_alloc _ _)) _ [irow (hN : Int)] rfl (QN.out w6) HIO.out HB9.out.1 HB9.out.2 (up_al h6.out.2.2.2 _ |> fun q => (q : Below wl.heap.size wl (w6.alloc (.cells #[.int .i64 (hN : Int)] 3)))).size ?_
                      intro vv9 w9 o9 g9
                      obtain ⟨a9, c9, rfl, t0, t1, t2, t3, t4, t5, h9⟩ := G9.out _ _ _ a4 c4 a6 c6 (up_al h6.out.2.2.2 _ |> fun q => (q : Below wl.heap.size wl (w6.alloc (.cells #[.int .i64 (hN : Int)] 3)))) ((h4.out.1.up h6.out.2.2.1).up (up_alloc _ _)) (h6.out.1.up (up_alloc _ _)) g9 o9
                      refine hK.out _ _ (by (try dsimp only); first | with_reducible exact ⟨r0, r1, r2, r3, r4, r5⟩ | with_reducible exact ⟨t0, t1, t2, t3, t4, t5⟩ | with_reducible exact ⟨u0, u1, u2, u3, u4, u5⟩ | with_reducible exact ⟨cell_al _ u0, cell_al _ u1, cell_al _ u2, cell_al _ u3, cell_al _ u4, cell_al _ u5⟩ | with_reducible exact ⟨v0, v1, v2, v3, v4, v5⟩ | with_reducible exact ⟨cell_al _ v0, cell_al _ v1, cell_al _ v2, cell_al _ v3, cell_al _ v4, cell_al _ v5⟩ | with_reducible exact ⟨m0 _, m1 _, m2 _, m3 _, m4 _, m5 _⟩ | with_reducible exact ⟨l0 _ _, l1 _ _, l2 _ _, l3 _ _, l4 _ _, l5 _ _⟩ | (simp [go_sem, r0, r1, r2, r3, r4, r5]; done) | (simp [go_sem, p0, p1, x0, x1, x2, x3]; done)) (fun hHeld => ?_)
                      clear hK K
                      try simp only [Act.put, List.getElem_toArray, List.getElem_cons_zero, List.getElem_cons_succ, List.setIfInBounds_toArray, List.set_cons_zero, List.set_cons_succ]
                      refine wpAnyH_ready (rs := [10]) (by kernel_rfl) (by simp) ?_
                      refine AllReadyH.cons rfl (fun K hK => ?_) AllReadyH.nil
                      go_simp
                      refine (H10.out w9 a4 c4 a9 c9 h9.out).mono ?_
                      rintro e w10 ⟨b1, m1', g1, b2, m2', g2, rfl, r0, r1, r2, r3, r4, r5, d0, d1, f0, f1, h10⟩
                      go_wp2_with fail
                      refine hK.out _ _ (by (try dsimp only); first | with_reducible exact ⟨r0, r1, r2, r3, r4, r5⟩ | with_reducible exact ⟨t0, t1, t2, t3, t4, t5⟩ | with_reducible exact ⟨u0, u1, u2, u3, u4, u5⟩ | with_reducible exact ⟨cell_al _ u0, cell_al _ u1, cell_al _ u2, cell_al _ u3, cell_al _ u4, cell_al _ u5⟩ | with_reducible exact ⟨v0, v1, v2, v3, v4, v5⟩ | with_reducible exact ⟨cell_al _ v0, cell_al _ v1, cell_al _ v2, cell_al _ v3, cell_al _ v4, cell_al _ v5⟩ | with_reducible exact ⟨m0 _, m1 _, m2 _, m3 _, m4 _, m5 _⟩ | with_reducible exact ⟨l0 _ _, l1 _ _, l2 _ _, l3 _ _, l4 _ _, l5 _ _⟩ | (simp [go_sem, r0, r1, r2, r3, r4, r5]; done) | (simp [go_sem, p0, p1, x0, x1, x2, x3]; done)) (fun hHeld => ?_)
                      clear hK K
                      try simp only [Act.put, List.getElem_toArray, List.getElem_cons_zero, List.getElem_cons_succ, List.setIfInBounds_toArray, List.set_cons_zero, List.set_cons_succ]
                      refine wpAnyH_ready (rs := [11]) (by kernel_rfl) (by simp) ?_
                      refine AllReadyH.cons rfl (fun K hK => ?_) AllReadyH.nil
                      go_simp
                      refine hK.out _ _ (by (try dsimp only); first | with_reducible exact ⟨r0, r1, r2, r3, r4, r5⟩ | with_reducible exact ⟨t0, t1, t2, t3, t4, t5⟩ | with_reducible exact ⟨u0, u1, u2, u3, u4, u5⟩ | with_reducible exact ⟨cell_al _ u0, cell_al _ u1, cell_al _ u2, cell_al _ u3, cell_al _ u4, cell_al _ u5⟩ | with_reducible exact ⟨v0, v1, v2, v3, v4, v5⟩ | with_reducible exact ⟨cell_al _ v0, cell_al _ v1, cell_al _ v2, cell_al _ v3, cell_al _ v4, cell_al _ v5⟩ | with_reducible exact ⟨m0 _, m1 _, m2 _, m3 _, m4 _, m5 _⟩ | with_reducible exact ⟨l0 _ _, l1 _ _, l2 _ _, l3 _ _, l4 _ _, l5 _ _⟩ | (simp [go_sem, r0, r1, r2, r3, r4, r5]; done) | (simp [go_sem, p0, p1, x0, x1, x2, x3]; done)) (fun hHeld => ?_)
                      clear hK K
                      try simp only [Act.put, List.getElem_toArray, List.getElem_cons_zero, List.getElem_cons_succ, List.setIfInBounds_toArray, List.set_cons_zero, List.set_cons_succ]
                      refine wpAnyH_ready (rs := [12]) (by kernel_rfl) (by simp) ?_
                      refine AllReadyH.cons rfl (fun K hK => ?_) AllReadyH.nil
                      go_simp
                      refine hK.out _ _ (by (try dsimp only); first | with_reducible exact ⟨r0, r1, r2, r3, r4, r5⟩ | with_reducible exact ⟨t0, t1, t2, t3, t4, t5⟩ | with_reducible exact ⟨u0, u1, u2, u3, u4, u5⟩ | with_reducible exact ⟨cell_al _ u0, cell_al _ u1, cell_al _ u2, cell_al _ u3, cell_al _ u4, cell_al _ u5⟩ | with_reducible exact ⟨v0, v1, v2, v3, v4, v5⟩ | with_reducible exact ⟨cell_al _ v0, cell_al _ v1, cell_al _ v2, cell_al _ v3, cell_al _ v4, cell_al _ v5⟩ | with_reducible exact ⟨m0 _, m1 _, m2 _, m3 _, m4 _, m5 _⟩ | with_reducible exact ⟨l0 _ _, l1 _ _, l2 _ _, l3 _ _, l4 _ _, l5 _ _⟩ | (simp [go_sem, r0, r1, r2, r3, r4, r5]; done) | (simp [go_sem, p0, p1, x0, x1, x2, x3]; done)) (fun hHeld => ?_)
                      clear hK K
                      try simp only [Act.put, List.getElem_toArray, List.getElem_cons_zero, List.getElem_cons_succ, List.setIfInBounds_toArray, List.set_cons_zero, List.set_cons_succ]
                      refine wpAnyH_done (by kernel_rfl) ?_ _
                      obtain ⟨⟨t, es', hown, hput⟩, hR⟩ := h10.out
                      have HF : Hid (OwnSk w10 w.heap.size 65 (.slice b1 m1' g1) (.slice b2 m2' g2) t es' ∧ IsPut s x (hN : Int) t ∧ RuB w w10 (.slice aN s.nodes.length cN) (.slice aH s.head.length cH) x) := ⟨hown, hput, hR⟩
                      clear hown hput hR h10 r0 r1 r2 r3 r4 r5 d0 d1 f0 f1
                      go_wp2_with fail
                      refine bodyPost_ret (results_st2 (q := 6) (r := 7) rfl (.inr rfl) _ _ rfl (set2_blk HF.out.2.2.2.2.2 (.slice b1 m1' g1) (.slice b2 m2' g2))) rfl ?_
                      have gs := set2_grown w10 (w.heap.size + 2) (.slice b1 m1' g1) (.slice b2 m2' g2)
                      refine ⟨_, _, by rw [HE.out]; rfl, ⟨t, es', HF.out.1.block HF.out.2.2.2.2.2 (by decide) (by decide) gs, HF.out.2.1⟩, ?_⟩
                      exact HF.out.2.2.1.grown gs HF.out.2.2.1.size (fun k hk => by injection hk with hk; rw [← hk]; omega)
                    · skip
                      go_simp
                      refine hK.out _ _ (by (try dsimp only); first | with_reducible exact ⟨r0, r1, r2, r3, r4, r5⟩ | with_reducible exact ⟨t0, t1, t2, t3, t4, t5⟩ | with_reducible exact ⟨u0, u1, u2, u3, u4, u5⟩ | with_reducible exact ⟨cell_al _ u0, cell_al _ u1, cell_al _ u2, cell_al _ u3, cell_al _ u4, cell_al _ u5⟩ | with_reducible exact ⟨v0, v1, v2, v3, v4, v5⟩ | with_reducible exact ⟨cell_al _ v0, cell_al _ v1, cell_al _ v2, cell_al _ v3, cell_al _ v4, cell_al _ v5⟩ | with_reducible exact ⟨m0 _, m1 _, m2 _, m3 _, m4 _, m5 _⟩ | with_reducible exact ⟨l0 _ _, l1 _ _, l2 _ _, l3 _ _, l4 _ _, l5 _ _⟩ | (simp [go_sem, r0, r1, r2, r3, r4, r5]; done) | (simp [go_sem, p0, p1, x0, x1, x2, x3]; done)) (fun hHeld => ?_)
                      clear hK K
                      try simp only [Act.put, List.getElem_toArray, List.getElem_cons_zero, List.getElem_cons_succ, List.setIfInBounds_toArray, List.set_cons_zero, List.set_cons_succ]
                      refine wpAnyH_ready (rs := [6]) (by kernel_rfl) (by simp) ?_
                      refine AllReadyH.cons rfl (fun K hK => ?_) AllReadyH.nil
                      go_simp
                      refine (H6.out (w4.alloc (.cells #[.int .i64 (hN : Int)] 3)) (up_al h4.out.2 _ |> fun q => (q : Below wl.heap.size wl (w4.alloc (.cells #[.int .i64 (hN : Int)] 3))))).mono ?_
                      rintro e w6 ⟨a6, c6, rfl, u0, u1, u2, u3, u4, u5, h6⟩
                      go_wp2_with fail
                      refine hK.out _ _ (by (try dsimp only); first | with_reducible exact ⟨r0, r1, r2, r3, r4, r5⟩ | with_reducible exact ⟨t0, t1, t2, t3, t4, t5⟩ | with_reducible exact ⟨u0, u1, u2, u3, u4, u5⟩ | with_reducible exact ⟨cell_al _ u0, cell_al _ u1, cell_al _ u2, cell_al _ u3, cell_al _ u4, cell_al _ u5⟩ | with_reducible exact ⟨v0, v1, v2, v3, v4, v5⟩ | with_reducible exact ⟨cell_al _ v0, cell_al _ v1, cell_al _ v2, cell_al _ v3, cell_al _ v4, cell_al _ v5⟩ | with_reducible exact ⟨m0 _, m1 _, m2 _, m3 _, m4 _, m5 _⟩ | with_reducible exact ⟨l0 _ _, l1 _ _, l2 _ _, l3 _ _, l4 _ _, l5 _ _⟩ | (simp [go_sem, r0, r1, r2, r3, r4, r5]; done) | (simp [go_sem, p0, p1, x0, x1, x2, x3]; done)) (fun hHeld => ?_)
                      clear hK K
                      try simp only [Act.put, List.getElem_toArray, List.getElem_cons_zero, List.getElem_cons_succ, List.setIfInBounds_toArray, List.set_cons_zero, List.set_cons_succ]
                      refine wpAnyH_ready (rs := [9]) (by kernel_rfl) (by simp) ?_
                      refine AllReadyH.cons rfl (fun K hK => ?_) AllReadyH.nil
                      refine step_append_rows _ rfl (.tmp 73) (.tmp 75) 23 3 _ 1 8 rfl Try.underlying23 Try.info3 rfl (by decide) wl.heap.size (.slice a6 s.nodes.length c6) ((s.hs.map castI).map irow) rfl (h6.out.1) _ [irow (hN : Int)] rfl ((QN.out w4).up h6.out.2.2.1) HIO.out HB9.out.1 HB9.out.2 (h6.out.2.2.2).size ?_
                      intro vv9 w9 o9 g9
                      obtain ⟨a9, c9, rfl, t0, t1, t2, t3, t4, t5, h9⟩ := G9.out _ _ _ a4 c4 a6 c6 (h6.out.2.2.2) ((h4.out.1.up (up_alloc w4 (.cells #[.int .i64 (hN : Int)] 3))).up h6.out.2.2.1) (h6.out.1) g9 o9
                      refine hK.out _ _ (by (try dsimp only); first | with_reducible exact ⟨r0, r1, r2, r3, r4, r5⟩ | with_reducible exact ⟨t0, t1, t2, t3, t4, t5⟩ | with_reducible exact ⟨u0, u1, u2, u3, u4, u5⟩ | with_reducible exact ⟨cell_al _ u0, cell_al _ u1, cell_al _ u2, cell_al _ u3, cell_al _ u4, cell_al _ u5⟩ | with_reducible exact ⟨v0, v1, v2, v3, v4, v5⟩ | with_reducible exact ⟨cell_al _ v0, cell_al _ v1, cell_al _ v2, cell_al _ v3, cell_al _ v4, cell_al _ v5⟩ | with_reducible exact ⟨m0 _, m1 _, m2 _, m3 _, m4 _, m5 _⟩ | with_reducible exact ⟨l0 _ _, l1 _ _, l2 _ _, l3 _ _, l4 _ _, l5 _ _⟩ | (simp [go_sem, r0, r1, r2, r3, r4, r5]; done) | (simp [go_sem, p0, p1, x0, x1, x2, x3]; done)) (fun hHeld => ?_)
                      clear hK K
                      try simp only [Act.put, List.getElem_toArray, List.getElem_cons_zero, List.getElem_cons_succ, List.setIfInBounds_toArray, List.set_cons_zero, List.set_cons_succ]
                      refine wpAnyH_ready (rs := [10]) (by kernel_rfl) (by simp) ?_
                      refine AllReadyH.cons rfl (fun K hK => ?_) AllReadyH.nil
                      go_simp
                      refine (H10.out w9 a4 c4 a9 c9 h9.out).mono ?_
                      rintro e w10 ⟨b1, m1', g1, b2, m2', g2, rfl, r0, r1, r2, r3, r4, r5, d0, d1, f0, f1, h10⟩
                      go_wp2_with fail
                      refine hK.out _ _ (by (try dsimp only); first | with_reducible exact ⟨r0, r1, r2, r3, r4, r5⟩ | with_reducible exact ⟨t0, t1, t2, t3, t4, t5⟩ | with_reducible exact ⟨u0, u1, u2, u3, u4, u5⟩ | with_reducible exact ⟨cell_al _ u0, cell_al _ u1, cell_al _ u2, cell_al _ u3, cell_al _ u4, cell_al _ u5⟩ | with_reducible exact ⟨v0, v1, v2, v3, v4, v5⟩ | with_reducible exact ⟨cell_al _ v0, cell_al _ v1, cell_al _ v2, cell_al _ v3, cell_al _ v4, cell_al _ v5⟩ | with_reducible exact ⟨m0 _, m1 _, m2 _, m3 _, m4 _, m5 _⟩ | with_reducible exact ⟨l0 _ _, l1 _ _, l2 _ _, l3 _ _, l4 _ _, l5 _ _⟩ | (simp [go_sem, r0, r1, r2, r3, r4, r5]; done) | (simp [go_sem, p0, p1, x0, x1, x2, x3]; done)) (fun hHeld => ?_)
                      clear hK K
                      try simp only [Act.put, List.getElem_toArray, List.getElem_cons_zero, List.getElem_cons_succ, List.setIfInBounds_toArray, List.set_cons_zero, List.set_cons_succ]
                      refine wpAnyH_ready (rs := [11]) (by kernel_rfl) (by simp) ?_
                      refine AllReadyH.cons rfl (fun K hK => ?_) AllReadyH.nil
                      go_simp
                      refine hK.out _ _ (by (try dsimp only); first | with_reducible exact ⟨r0, r1, r2, r3, r4, r5⟩ | with_reducible exact ⟨t0, t1, t2, t3, t4, t5⟩ | with_reducible exact ⟨u0, u1, u2, u3, u4, u5⟩ | with_reducible exact ⟨cell_al _ u0, cell_al _ u1, cell_al _ u2, cell_al _ u3, cell_al _ u4, cell_al _ u5⟩ | with_reducible exact ⟨v0, v1, v2, v3, v4, v5⟩ | with_reducible exact ⟨cell_al _ v0, cell_al _ v1, cell_al _ v2, cell_al _ v3, cell_al _ v4, cell_al _ v5⟩ | with_reducible exact ⟨m0 _, m1 _, m2 _, m3 _, m4 _, m5 _⟩ | with_reducible exact ⟨l0 _ _, l1 _ _, l2 _ _, l3 _ _, l4 _ _, l5 _ _⟩ | (simp [go_sem, r0, r1, r2, r3, r4, r5]; done) | (simp [go_sem, p0, p1, x0, x1, x2, x3]; done)) (fun hHeld => ?_)
                      clear hK K
                      try simp only [Act.put, List.getElem_toArray, List.getElem_cons_zero, List.getElem_cons_succ, List.setIfInBounds_toArray, List.set_cons_zero, List.set_cons_succ]
                      refine wpAnyH_ready (rs := [12]) (by kernel_rfl) (by simp) ?_
                      refine AllReadyH.cons rfl (fun K hK => ?_) AllReadyH.nil
                      go_simp
                      refine hK.out _ _ (by (try dsimp only); first | with_reducible exact ⟨r0, r1, r2, r3, r4, r5⟩ | with_reducible exact ⟨t0, t1, t2, t3, t4, t5⟩ | with_reducible exact ⟨u0, u1, u2, u3, u4, u5⟩ | with_reducible exact ⟨cell_al _ u0, cell_al _ u1, cell_al _ u2, cell_al _ u3, cell_al _ u4, cell_al _ u5⟩ | with_reducible exact ⟨v0, v1, v2, v3, v4, v5⟩ | with_reducible exact ⟨cell_al _ v0, cell_al _ v1, cell_al _ v2, cell_al _ v3, cell_al _ v4, cell_al _ v5⟩ | with_reducible exact ⟨m0 _, m1 _, m2 _, m3 _, m4 _, m5 _⟩ | with_reducible exact ⟨l0 _ _, l1 _ _, l2 _ _, l3 _ _, l4 _ _, l5 _ _⟩ | (simp [go_sem, r0, r1, r2, r3, r4, r5]; done) | (simp [go_sem, p0, p1, x0, x1, x2, x3]; done)) (fun hHeld => ?_)
                      clear hK K
                      try simp only [Act.put, List.getElem_toArray, List.getElem_cons_zero, List.getElem_cons_succ, List.setIfInBounds_toArray, List.set_cons_zero, List.set_cons_succ]
                      refine wpAnyH_done (by kernel_rfl) ?_ _
                      obtain ⟨⟨t, es', hown, hput⟩, hR⟩ := h10.out
                      have HF : Hid (OwnSk w10 w.heap.size 65 (.slice b1 m1' g1) (.slice b2 m2' g2) t es' ∧ IsPut s x (hN : Int) t ∧ RuB w w10 (.slice aN s.nodes.length cN) (.slice aH s.head.length cH) x) := ⟨hown, hput, hR⟩
                      clear hown hput hR h10 r0 r1 r2 r3 r4 r5 d0 d1 f0 f1
                      go_wp2_with fail
                      refine bodyPost_ret (results_st2 (q := 6) (r := 7) rfl (.inr rfl) _ _ rfl (set2_blk HF.out.2.2.2.2.2 (.slice b1 m1' g1) (.slice b2 m2' g2))) rfl ?_
                      have gs := set2_grown w10 (w.heap.size + 2) (.slice b1 m1' g1) (.slice b2 m2' g2)
                      refine ⟨_, _, by rw [HE.out]; rfl, ⟨t, es', HF.out.1.block HF.out.2.2.2.2.2 (by decide) (by decide) gs, HF.out.2.1⟩, ?_⟩
                      exact HF.out.2.2.1.grown gs HF.out.2.2.1.size (fun k hk => by injection hk with hk; rw [← hk]; omega)
                  · skip
                    go_simp
                    refine hK.out _ _ (by (try dsimp only); first | with_reducible exact ⟨r0, r1, r2, r3, r4, r5⟩ | with_reducible exact ⟨t0, t1, t2, t3, t4, t5⟩ | with_reducible exact ⟨u0, u1, u2, u3, u4, u5⟩ | with_reducible exact ⟨cell_al _ u0, cell_al _ u1, cell_al _ u2, cell_al _ u3, cell_al _ u4, cell_al _ u5⟩ | with_reducible exact ⟨v0, v1, v2, v3, v4, v5⟩ | with_reducible exact ⟨cell_al _ v0, cell_al _ v1, cell_al _ v2, cell_al _ v3, cell_al _ v4, cell_al _ v5⟩ | with_reducible exact ⟨m0 _, m1 _, m2 _, m3 _, m4 _, m5 _⟩ | with_reducible exact ⟨l0 _ _, l1 _ _, l2 _ _, l3 _ _, l4 _ _, l5 _ _⟩ | (simp [go_sem, r0, r1, r2, r3, r4, r5]; done) | (simp [go_sem, p0, p1, x0, x1, x2, x3]; done)) (fun hHeld => ?_)
                    clear hK K
                    try simp only [Act.put, List.getElem_toArray, List.getElem_cons_zero, List.getElem_cons_succ, List.setIfInBounds_toArray, List.set_cons_zero, List.set_cons_succ]
                    refine wpAnyH_ready (rs := [4]) (by kernel_rfl) (by simp) ?_
                    refine AllReadyH.cons rfl (fun K hK => ?_) AllReadyH.nil
                    refine step_append_rows _ rfl (.tmp 67) (.tmp 70) 22 65 _ 5 72 rfl Try.underlying22 Try.info65 rfl (by decide) wl.heap.size (.slice aL s.nodes.length cL) (es.map nrow) rfl OA2.out _ [nrow (x, Value.slice none 0 0)] rfl RA2.out HRO.out HB4.out.1 HB4.out.2 (HSZ.out _ UA2.out) ?_
                    intro vv4 w4 o4 g4
                    obtain ⟨a4, c4, rfl, v0, v1, v2, v3, v4, v5, h4⟩ := G4.out _ _ _ UA2.out g4 o4
                    have q4 := Q4.out _ _ _ (by omega) UA2.out g4 QA2.out
                    refine hK.out _ _ (by (try dsimp only); first | with_reducible exact ⟨r0, r1, r2, r3, r4, r5⟩ | with_reducible exact ⟨t0, t1, t2, t3, t4, t5⟩ | with_reducible exact ⟨u0, u1, u2, u3, u4, u5⟩ | with_reducible exact ⟨cell_al _ u0, cell_al _ u1, cell_al _ u2, cell_al _ u3, cell_al _ u4, cell_al _ u5⟩ | with_reducible exact ⟨v0, v1, v2, v3, v4, v5⟩ | with_reducible exact ⟨cell_al _ v0, cell_al _ v1, cell_al _ v2, cell_al _ v3, cell_al _ v4, cell_al _ v5⟩ | with_reducible exact ⟨m0 _, m1 _, m2 _, m3 _, m4 _, m5 _⟩ | with_reducible exact ⟨l0 _ _, l1 _ _, l2 _ _, l3 _ _, l4 _ _, l5 _ _⟩ | (simp [go_sem, r0, r1, r2, r3, r4, r5]; done) | (simp [go_sem, p0, p1, x0, x1, x2, x3]; done)) (fun hHeld => ?_)
                    clear hK K
                    try simp only [Act.put, List.getElem_toArray, List.getElem_cons_zero, List.getElem_cons_succ, List.setIfInBounds_toArray, List.set_cons_zero, List.set_cons_succ]
                    refine wpAnyH_ready (rs := [6]) (by kernel_rfl) (by simp) ?_
                    refine AllReadyH.cons rfl (fun K hK => ?_) AllReadyH.nil
                    go_simp
                    refine (H6.out w4 (h4.out.2)).mono ?_
                    rintro e w6 ⟨a6, c6, rfl, u0, u1, u2, u3, u4, u5, h6⟩
                    go_wp2_with fail
                    refine hK.out _ _ (by (try dsimp only); first | with_reducible exact ⟨r0, r1, r2, r3, r4, r5⟩ | with_reducible exact ⟨t0, t1, t2, t3, t4, t5⟩ | with_reducible exact ⟨u0, u1, u2, u3, u4, u5⟩ | with_reducible exact ⟨cell_al _ u0, cell_al _ u1, cell_al _ u2, cell_al _ u3, cell_al _ u4, cell_al _ u5⟩ | with_reducible exact ⟨v0, v1, v2, v3, v4, v5⟩ | with_reducible exact ⟨cell_al _ v0, cell_al _ v1, cell_al _ v2, cell_al _ v3, cell_al _ v4, cell_al _ v5⟩ | with_reducible exact ⟨m0 _, m1 _, m2 _, m3 _, m4 _, m5 _⟩ | with_reducible exact ⟨l0 _ _, l1 _ _, l2 _ _, l3 _ _, l4 _ _, l5 _ _⟩ | (simp [go_sem, r0, r1, r2, r3, r4, r5]; done) | (simp [go_sem, p0, p1, x0, x1, x2, x3]; done)) (fun hHeld => ?_)
                    clear hK K
                    try simp only [Act.put, List.getElem_toArray, List.getElem_cons_zero, List.getElem_cons_succ, List.setIfInBounds_toArray, List.set_cons_zero, List.set_cons_succ]
                    refine wpAnyH_ready (rs := [9]) (by kernel_rfl) (by simp) ?_
                    refine AllReadyH.cons rfl (fun K hK => ?_) AllReadyH.nil
                    refine step_append_rows _ rfl (.tmp 73) (.tmp 75) 23 3 _ 1 8 rfl Try.underlying23 Try.info3 rfl (by decide) wl.heap.size (.slice a6 s.nodes.length c6) ((s.hs.map castI).map irow) rfl (h6.out.1) _ [irow (hN : Int)] rfl (q4.up h6.out.2.2.1) HIO.out HB9.out.1 HB9.out.2 (h6.out.2.2.2).size ?_
                    intro vv9 w9 o9 g9
                    obtain ⟨a9, c9, rfl, t0, t1, t2, t3, t4, t5, h9⟩ := G9.out _ _ _ a4 c4 a6 c6 (h6.out.2.2.2) (h4.out.1.up h6.out.2.2.1) (h6.out.1) g9 o9
                    refine hK.out _ _ (by (try dsimp only); first | with_reducible exact ⟨r0, r1, r2, r3, r4, r5⟩ | with_reducible exact ⟨t0, t1, t2, t3, t4, t5⟩ | with_reducible exact ⟨u0, u1, u2, u3, u4, u5⟩ | with_reducible exact ⟨cell_al _ u0, cell_al _ u1, cell_al _ u2, cell_al _ u3, cell_al _ u4, cell_al _ u5⟩ | with_reducible exact ⟨v0, v1, v2, v3, v4, v5⟩ | with_reducible exact ⟨cell_al _ v0, cell_al _ v1, cell_al _ v2, cell_al _ v3, cell_al _ v4, cell_al _ v5⟩ | with_reducible exact ⟨m0 _, m1 _, m2 _, m3 _, m4 _, m5 _⟩ | with_reducible exact ⟨l0 _ _, l1 _ _, l2 _ _, l3 _ _, l4 _ _, l5 _ _⟩ | (simp [go_sem, r0, r1, r2, r3, r4, r5]; done) | (simp [go_sem, p0, p1, x0, x1, x2, x3]; done)) (fun hHeld => ?_)
                    clear hK K
                    try simp only [Act.put, List.getElem_toArray, List.getElem_cons_zero, List.getElem_cons_succ, List.setIfInBounds_toArray, List.set_cons_zero, List.set_cons_succ]
                    refine wpAnyH_ready (rs := [10]) (by kernel_rfl) (by simp) ?_
                    refine AllReadyH.cons rfl (fun K hK => ?_) AllReadyH.nil
                    go_simp
                    refine (H10.out w9 a4 c4 a9 c9 h9.out).mono ?_
                    rintro e w10 ⟨b1, m1', g1, b2, m2', g2, rfl, r0, r1, r2, r3, r4, r5, d0, d1, f0, f1, h10⟩
                    go_wp2_with fail
                    refine hK.out _ _ (by (try dsimp only); first | with_reducible exact ⟨r0, r1, r2, r3, r4, r5⟩ | with_reducible exact ⟨t0, t1, t2, t3, t4, t5⟩ | with_reducible exact ⟨u0, u1, u2, u3, u4, u5⟩ | with_reducible exact ⟨cell_al _ u0, cell_al _ u1, cell_al _ u2, cell_al _ u3, cell_al _ u4, cell_al _ u5⟩ | with_reducible exact ⟨v0, v1, v2, v3, v4, v5⟩ | with_reducible exact ⟨cell_al _ v0, cell_al _ v1, cell_al _ v2, cell_al _ v3, cell_al _ v4, cell_al _ v5⟩ | with_reducible exact ⟨m0 _, m1 _, m2 _, m3 _, m4 _, m5 _⟩ | with_reducible exact ⟨l0 _ _, l1 _ _, l2 _ _, l3 _ _, l4 _ _, l5 _ _⟩ | (simp [go_sem, r0, r1, r2, r3, r4, r5]; done) | (simp [go_sem, p0, p1, x0, x1, x2, x3]; done)) (fun hHeld => ?_)
                    clear hK K
                    try simp only [Act.put, List.getElem_toArray, List.getElem_cons_zero, List.getElem_cons_succ, List.setIfInBounds_toArray, List.set_cons_zero, List.set_cons_succ]
                    refine wpAnyH_ready (rs := [11]) (by kernel_rfl) (by simp) ?_
                    refine AllReadyH.cons rfl (fun K hK => ?_) AllReadyH.nil
                    go_simp
                    refine hK.out _ _ (by (try dsimp only); first | with_reducible exact ⟨r0, r1, r2, r3, r4, r5⟩ | with_reducible exact ⟨t0, t1, t2, t3, t4, t5⟩ | with_reducible exact ⟨u0, u1, u2, u3, u4, u5⟩ | with_reducible exact ⟨cell_al _ u0, cell_al _ u1, cell_al _ u2, cell_al _ u3, cell_al _ u4, cell_al _ u5⟩ | with_reducible exact ⟨v0, v1, v2, v3, v4, v5⟩ | with_reducible exact ⟨cell_al _ v0, cell_al _ v1, cell_al _ v2, cell_al _ v3, cell_al _ v4, cell_al _ v5⟩ | with_reducible exact ⟨m0 _, m1 _, m2 _, m3 _, m4 _, m5 _⟩ | with_reducible exact ⟨l0 _ _, l1 _ _, l2 _ _, l3 _ _, l4 _ _, l5 _ _⟩ | (simp [go_sem, r0, r1, r2, r3, r4, r5]; done) | (simp [go_sem, p0, p1, x0, x1, x2, x3]; done)) (fun hHeld => ?_)
                    clear hK K
                    try simp only [Act.put, List.getElem_toArray, List.getElem_cons_zero, List.getElem_cons_succ, List.setIfInBounds_toArray, List.set_cons_zero, List.set_cons_succ]
                    refine wpAnyH_ready (rs := [12]) (by kernel_rfl) (by simp) ?_
                    refine AllReadyH.cons rfl (fun K hK => ?_) AllReadyH.nil
                    go_simp
                    refine hK.out _ _ (by (try dsimp only); first | with_reducible exact ⟨r0, r1, r2, r3, r4, r5⟩ | with_reducible exact ⟨t0, t1, t2, t3, t4, t5⟩ | with_reducible exact ⟨u0, u1, u2, u3, u4, u5⟩ | with_reducible exact ⟨cell_al _ u0, cell_al _ u1, cell_al _ u2, cell_al _ u3, cell_al _ u4, cell_al _ u5⟩ | with_reducible exact ⟨v0, v1, v2, v3, v4, v5⟩ | with_reducible exact ⟨cell_al _ v0, cell_al _ v1, cell_al _ v2, cell_al _ v3, cell_al _ v4, cell_al _ v5⟩ | with_reducible exact ⟨m0 _, m1 _, m2 _, m3 _, m4 _, m5 _⟩ | with_reducible exact ⟨l0 _ _, l1 _ _, l2 _ _, l3 _ _, l4 _ _, l5 _ _⟩ | (simp [go_sem, r0, r1, r2, r3, r4, r5]; done) | (simp [go_sem, p0, p1, x0, x1, x2, x3]; done)) (fun hHeld => ?_)
                    clear hK K
                    try simp only [Act.put, List.getElem_toArray, List.getElem_cons_zero, List.getElem_cons_succ, List.setIfInBounds_toArray, List.set_cons_zero, List.set_cons_succ]
                    refine wpAnyH_done (by kernel_rfl) ?_ _
                    obtain ⟨⟨t, es', hown, hput⟩, hR⟩ := h10.out
                    have HF : Hid (OwnSk w10 w.heap.size 65 (.slice b1 m1' g1) (.slice b2 m2' g2) t es' ∧ IsPut s x (hN : Int) t ∧ RuB w w10 (.slice aN s.nodes.length cN) (.slice aH s.head.length cH) x) := ⟨hown, hput, hR⟩
                    clear hown hput hR h10 r0 r1 r2 r3 r4 r5 d0 d1 f0 f1
                    go_wp2_with fail
                    refine bodyPost_ret (results_st2 (q := 6) (r := 7) rfl (.inr rfl) _ _ rfl (set2_blk HF.out.2.2.2.2.2 (.slice b1 m1' g1) (.slice b2 m2' g2))) rfl ?_
                    have gs := set2_grown w10 (w.heap.size + 2) (.slice b1 m1' g1) (.slice b2 m2' g2)
                    refine ⟨_, _, by rw [HE.out]; rfl, ⟨t, es', HF.out.1.block HF.out.2.2.2.2.2 (by decide) (by decide) gs, HF.out.2.1⟩, ?_⟩
                    exact HF.out.2.2.1.grown gs HF.out.2.2.1.size (fun k hk => by injection hk with hk; rw [← hk]; omega)
                · skip
                  go_simp
                  refine hK.out _ _ (by (try dsimp only); first | with_reducible exact ⟨r0, r1, r2, r3, r4, r5⟩ | with_reducible exact ⟨t0, t1, t2, t3, t4, t5⟩ | with_reducible exact ⟨u0, u1, u2, u3, u4, u5⟩ | with_reducible exact ⟨cell_al _ u0, cell_al _ u1, cell_al _ u2, cell_al _ u3, cell_al _ u4, cell_al _ u5⟩ | with_reducible exact ⟨v0, v1, v2, v3, v4, v5⟩ | with_reducible exact ⟨cell_al _ v0, cell_al _ v1, cell_al _ v2, cell_al _ v3, cell_al _ v4, cell_al _ v5⟩ | with_reducible exact ⟨m0 _, m1 _, m2 _, m3 _, m4 _, m5 _⟩ | with_reducible exact ⟨l0 _ _, l1 _ _, l2 _ _, l3 _ _, l4 _ _, l5 _ _⟩ | (simp [go_sem, r0, r1, r2, r3, r4, r5]; done) | (simp [go_sem, p0, p1, x0, x1, x2, x3]; done)) (fun hHeld => ?_)
                  clear hK K
                  try simp only [Act.put, List.getElem_toArray, List.getElem_cons_zero, List.getElem_cons_succ, List.setIfInBounds_toArray, List.set_cons_zero, List.set_cons_succ]
                  refine wpAnyH_ready (rs := [3]) (by kernel_rfl) (by simp) ?_
                  refine AllReadyH.cons rfl (fun K hK => ?_) AllReadyH.nil
                  go_simp
                  refine hK.out _ _ (by (try dsimp only); first | with_reducible exact ⟨r0, r1, r2, r3, r4, r5⟩ | with_reducible exact ⟨t0, t1, t2, t3, t4, t5⟩ | with_reducible exact ⟨u0, u1, u2, u3, u4, u5⟩ | with_reducible exact ⟨cell_al _ u0, cell_al _ u1, cell_al _ u2, cell_al _ u3, cell_al _ u4, cell_al _ u5⟩ | with_reducible exact ⟨v0, v1, v2, v3, v4, v5⟩ | with_reducible exact ⟨cell_al _ v0, cell_al _ v1, cell_al _ v2, cell_al _ v3, cell_al _ v4, cell_al _ v5⟩ | with_reducible exact ⟨m0 _, m1 _, m2 _, m3 _, m4 _, m5 _⟩ | with_reducible exact ⟨l0 _ _, l1 _ _, l2 _ _, l3 _ _, l4 _ _, l5 _ _⟩ | (simp [go_sem, r0, r1, r2, r3, r4, r5]; done) | (simp [go_sem, p0, p1, x0, x1, x2, x3]; done)) (fun hHeld => ?_)
                  clear hK K
                  try simp only [Act.put, List.getElem_toArray, List.getElem_cons_zero, List.getElem_cons_succ, List.setIfInBounds_toArray, List.set_cons_zero, List.set_cons_succ]
                  refine wpAnyH_ready (rs := [4]) (by kernel_rfl) (by simp) ?_
                  refine AllReadyH.cons rfl (fun K hK => ?_) AllReadyH.nil
                  refine step_append_rows _ rfl (.tmp 67) (.tmp 70) 22 65 _ 5 72 rfl Try.underlying22 Try.info65 rfl (by decide) wl.heap.size (.slice aL s.nodes.length cL) (es.map nrow) rfl OB.out _ [nrow (x, Value.slice none 0 0)] rfl RB.out HRO.out HB4.out.1 HB4.out.2 (HSZ.out _ UB.out) ?_
                  intro vv4 w4 o4 g4
                  obtain ⟨a4, c4, rfl, v0, v1, v2, v3, v4, v5, h4⟩ := G4.out _ _ _ UB.out g4 o4
                  have q4 := Q4.out _ _ _ (by omega) UB.out g4 QB.out
                  refine hK.out _ _ (by (try dsimp only); first | with_reducible exact ⟨r0, r1, r2, r3, r4, r5⟩ | with_reducible exact ⟨t0, t1, t2, t3, t4, t5⟩ | with_reducible exact ⟨u0, u1, u2, u3, u4, u5⟩ | with_reducible exact ⟨cell_al _ u0, cell_al _ u1, cell_al _ u2, cell_al _ u3, cell_al _ u4, cell_al _ u5⟩ | with_reducible exact ⟨v0, v1, v2, v3, v4, v5⟩ | with_reducible exact ⟨cell_al _ v0, cell_al _ v1, cell_al _ v2, cell_al _ v3, cell_al _ v4, cell_al _ v5⟩ | with_reducible exact ⟨m0 _, m1 _, m2 _, m3 _, m4 _, m5 _⟩ | with_reducible exact ⟨l0 _ _, l1 _ _, l2 _ _, l3 _ _, l4 _ _, l5 _ _⟩ | (simp [go_sem, r0, r1, r2, r3, r4, r5]; done) | (simp [go_sem, p0, p1, x0, x1, x2, x3]; done)) (fun hHeld => ?_)
                  clear hK K
                  try simp only [Act.put, List.getElem_toArray, List.getElem_cons_zero, List.getElem_cons_succ, List.setIfInBounds_toArray, List.set_cons_zero, List.set_cons_succ]
                  refine wpAnyH_ready (rs := [6]) (by kernel_rfl) (by simp) ?_
                  refine AllReadyH.cons rfl (fun K hK => ?_) AllReadyH.nil
                  go_simp
                  refine (H6.out w4 (h4.out.2)).mono ?_
                  rintro e w6 ⟨a6, c6, rfl, u0, u1, u2, u3, u4, u5, h6⟩
                  go_wp2_with fail
                  refine hK.out _ _ (by (try dsimp only); first | with_reducible exact ⟨r0, r1, r2, r3, r4, r5⟩ | with_reducible exact ⟨t0, t1, t2, t3, t4, t5⟩ | with_reducible exact ⟨u0, u1, u2, u3, u4, u5⟩ | with_reducible exact ⟨cell_al _ u0, cell_al _ u1, cell_al _ u2, cell_al _ u3, cell_al _ u4, cell_al _ u5⟩ | with_reducible exact ⟨v0, v1, v2, v3, v4, v5⟩ | with_reducible exact ⟨cell_al _ v0, cell_al _ v1, cell_al _ v2, cell_al _ v3, cell_al _ v4, cell_al _ v5⟩ | with_reducible exact ⟨m0 _, m1 _, m2 _, m3 _, m4 _, m5 _⟩ | with_reducible exact ⟨l0 _ _, l1 _ _, l2 _ _, l3 _ _, l4 _ _, l5 _ _⟩ | (simp [go_sem, r0, r1, r2, r3, r4, r5]; done) | (simp [go_sem, p0, p1, x0, x1, x2, x3]; done)) (fun hHeld => ?_)
                  clear hK K
                  try simp only [Act.put, List.getElem_toArray, List.getElem_cons_zero, List.getElem_cons_succ, List.setIfInBounds_toArray, List.set_cons_zero, List.set_cons_succ]
                  refine wpAnyH_ready (rs := [9]) (by kernel_rfl) (by simp) ?_
                  refine AllReadyH.cons rfl (fun K hK => ?_) AllReadyH.nil
                  refine step_append_rows _ rfl (.tmp 73) (.tmp 75) 23 3 _ 1 8 rfl Try.underlying23 Try.info3 rfl (by decide) wl.heap.size (.slice a6 s.nodes.length c6) ((s.hs.map castI).map irow) rfl (h6.out.1) _ [irow (hN : Int)] rfl (q4.up h6.out.2.2.1) HIO.out HB9.out.1 HB9.out.2 (h6.out.2.2.2).size ?_
                  intro vv9 w9 o9 g9
                  obtain ⟨a9, c9, rfl, t0, t1, t2, t3, t4, t5, h9⟩ := G9.out _ _ _ a4 c4 a6 c6 (h6.out.2.2.2) (h4.out.1.up h6.out.2.2.1) (h6.out.1) g9 o9
                  refine hK.out _ _ (by (try dsimp only); first | with_reducible exact ⟨r0, r1, r2, r3, r4, r5⟩ | with_reducible exact ⟨t0, t1, t2, t3, t4, t5⟩ | with_reducible exact ⟨u0, u1, u2, u3, u4, u5⟩ | with_reducible exact ⟨cell_al _ u0, cell_al _ u1, cell_al _ u2, cell_al _ u3, cell_al _ u4, cell_al _ u5⟩ | with_reducible exact ⟨v0, v1, v2, v3, v4, v5⟩ | with_reducible exact ⟨cell_al _ v0, cell_al _ v1, cell_al _ v2, cell_al _ v3, cell_al _ v4, cell_al _ v5⟩ | with_reducible exact ⟨m0 _, m1 _, m2 _, m3 _, m4 _, m5 _⟩ | with_reducible exact ⟨l0 _ _, l1 _ _, l2 _ _, l3 _ _, l4 _ _, l5 _ _⟩ | (simp [go_sem, r0, r1, r2, r3, r4, r5]; done) | (simp [go_sem, p0, p1, x0, x1, x2, x3]; done)) (fun hHeld => ?_)
                  clear hK K
                  try simp only [Act.put, List.getElem_toArray, List.getElem_cons_zero, List.getElem_cons_succ, List.setIfInBounds_toArray, List.set_cons_zero, List.set_cons_succ]
                  refine wpAnyH_ready (rs := [10]) (by kernel_rfl) (by simp) ?_
                  refine AllReadyH.cons rfl (fun K hK => ?_) AllReadyH.nil
                  go_simp
                  refine (H10.out w9 a4 c4 a9 c9 h9.out).mono ?_
                  rintro e w10 ⟨b1, m1', g1, b2, m2', g2, rfl, r0, r1, r2, r3, r4, r5, d0, d1, f0, f1, h10⟩
                  go_wp2_with fail
                  refine hK.out _ _ (by (try dsimp only); first | with_reducible exact ⟨r0, r1, r2, r3, r4, r5⟩ | with_reducible exact ⟨t0, t1, t2, t3, t4, t5⟩ | with_reducible exact ⟨u0, u1, u2, u3, u4, u5⟩ | with_reducible exact ⟨cell_al _ u0, cell_al _ u1, cell_al _ u2, cell_al _ u3, cell_al _ u4, cell_al _ u5⟩ | with_reducible exact ⟨v0, v1, v2, v3, v4, v5⟩ | with_reducible exact ⟨cell_al _ v0, cell_al _ v1, cell_al _ v2, cell_al _ v3, cell_al _ v4, cell_al _ v5⟩ | with_reducible exact ⟨m0 _, m1 _, m2 _, m3 _, m4 _, m5 _⟩ | with_reducible exact ⟨l0 _ _, l1 _ _, l2 _ _, l3 _ _, l4 _ _, l5 _ _⟩ | (simp [go_sem, r0, r1, r2, r3, r4, r5]; done) | (simp [go_sem, p0, p1, x0, x1, x2, x3]; done)) (fun hHeld => ?_)
                  clear hK K
                  try simp only [Act.put, List.getElem_toArray, List.getElem_cons_zero, List.getElem_cons_succ, List.setIfInBounds_toArray, List.set_cons_zero, List.set_cons_succ]
                  refine wpAnyH_ready (rs := [11]) (by kernel_rfl) (by simp) ?_
                  refine AllReadyH.cons rfl (fun K hK => ?_) AllReadyH.nil
                  go_simp
                  refine hK.out _ _ (by (try dsimp only); first | with_reducible exact ⟨r0, r1, r2, r3, r4, r5⟩ | with_reducible exact ⟨t0, t1, t2, t3, t4, t5⟩ | with_reducible exact ⟨u0, u1, u2, u3, u4, u5⟩ | with_reducible exact ⟨cell_al _ u0, cell_al _ u1, cell_al _ u2, cell_al _ u3, cell_al _ u4, cell_al _ u5⟩ | with_reducible exact ⟨v0, v1, v2, v3, v4, v5⟩ | with_reducible exact ⟨cell_al _ v0, cell_al _ v1, cell_al _ v2, cell_al _ v3, cell_al _ v4, cell_al _ v5⟩ | with_reducible exact ⟨m0 _, m1 _, m2 _, m3 _, m4 _, m5 _⟩ | with_reducible exact ⟨l0 _ _, l1 _ _, l2 _ _, l3 _ _, l4 _ _, l5 _ _⟩ | (simp [go_sem, r0, r1, r2, r3, r4, r5]; done) | (simp [go_sem, p0, p1, x0, x1, x2, x3]; done)) (fun hHeld => ?_)
                  clear hK K
                  try simp only [Act.put, List.getElem_toArray, List.getElem_cons_zero, List.getElem_cons_succ, List.setIfInBounds_toArray, List.set_cons_zero, List.set_cons_succ]
                  refine wpAnyH_ready (rs := [12]) (by kernel_rfl) (by simp) ?_
                  refine AllReadyH.cons rfl (fun K hK => ?_) AllReadyH.nil
                  go_simp
                  refine hK.out _ _ (by (try dsimp only); first | with_reducible exact ⟨r0, r1, r2, r3, r4, r5⟩ | with_reducible exact ⟨t0, t1, t2, t3, t4, t5⟩ | with_reducible exact ⟨u0, u1, u2, u3, u4, u5⟩ | with_reducible exact ⟨cell_al _ u0, cell_al _ u1, cell_al _ u2, cell_al _ u3, cell_al _ u4, cell_al _ u5⟩ | with_reducible exact ⟨v0, v1, v2, v3, v4, v5⟩ | with_reducible exact ⟨cell_al _ v0, cell_al _ v1, cell_al _ v2, cell_al _ v3, cell_al _ v4, cell_al _ v5⟩ | with_reducible exact ⟨m0 _, m1 _, m2 _, m3 _, m4 _, m5 _⟩ | with_reducible exact ⟨l0 _ _, l1 _ _, l2 _ _, l3 _ _, l4 _ _, l5 _ _⟩ | (simp [go_sem, r0, r1, r2, r3, r4, r5]; done) | (simp [go_sem, p0, p1, x0, x1, x2, x3]; done)) (fun hHeld => ?_)
                  clear hK K
                  try simp only [Act.put, List.getElem_toArray, List.getElem_cons_zero, List.getElem_cons_succ, List.setIfInBounds_toArray, List.set_cons_zero, List.set_cons_succ]
                  refine wpAnyH_done (by kernel_rfl) ?_ _
                  obtain ⟨⟨t, es', hown, hput⟩, hR⟩ := h10.out
                  have HF : Hid (OwnSk w10 w.heap.size 65 (.slice b1 m1' g1) (.slice b2 m2' g2) t es' ∧ IsPut s x (hN : Int) t ∧ RuB w w10 (.slice aN s.nodes.length cN) (.slice aH s.head.length cH) x) := ⟨hown, hput, hR⟩
                  clear hown hput hR h10 r0 r1 r2 r3 r4 r5 d0 d1 f0 f1
                  go_wp2_with fail
                  refine bodyPost_ret (results_st2 (q := 6) (r := 7) rfl (.inr rfl) _ _ rfl (set2_blk HF.out.2.2.2.2.2 (.slice b1 m1' g1) (.slice b2 m2' g2))) rfl ?_
                  have gs := set2_grown w10 (w.heap.size + 2) (.slice b1 m1' g1) (.slice b2 m2' g2)
                  refine ⟨_, _, by rw [HE.out]; rfl, ⟨t, es', HF.out.1.block HF.out.2.2.2.2.2 (by decide) (by decide) gs, HF.out.2.1⟩, ?_⟩
                  exact HF.out.2.2.1.grown gs HF.out.2.2.1.size (fun k hk => by injection hk with hk; rw [← hk]; omega)
  · have e9 : errC s = 9 := by unfold errC; rw [if_neg hG]
    have HE : Hid (errP s x h = 9) := by
      unfold Hid errP
      rw [if_pos (by simpa using hG)]
    rw [e9]
    obtain ⟨d0, d1, f0, f1⟩ := HCELLS.out _ HB1.out
    go_wp2_with fail
    obtain ⟨hz1, hz2⟩ := HEND.out w1 9 HB1.out HE.out (by decide)
    exact bodyPost_ret (results_st2 (q := 6) (r := 7) rfl (.inr rfl) _ _ rfl hz1) rfl hz2
end Go.Proofs.Ytmiokopnhkojoaa
