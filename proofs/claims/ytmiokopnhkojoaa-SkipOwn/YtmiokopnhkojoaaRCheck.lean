/- The document's Check. -/
import Derived.Test.YtmiokopnhkojoaaRWays
import Derived.Test.YtmiokopnhkojoaaPChk
import Derived.Test.YtmiokopnhkojoaaLUp
namespace Go.Proofs.Ytmiokopnhkojoaa
open Go.RowKit
set_option linter.unusedVariables false
set_option linter.unusedSimpArgs false

/-- The heights, read off the slices. -/
theorem SkE.heights {w : World} {vN vH : Value} {s : Sk} {es : List (En × Value)} (h : SkE w vN vH s es) : es.map hrow = (s.hs.map castI).map irow := by
  refine List.ext_getElem (by simp [Sk.hs, h.len]) (fun k h1 h2 => ?_)
  simp only [List.length_map] at h1
  have hk := h.nexts k es[k] (by simp [h1])
  obtain ⟨a, c, e, _⟩ := hk.len
  have hk2 : k < s.nodes.length := by rw [← h.len]; exact h1
  have e2 : s.hs[k]'(by simpa [Sk.hs] using hk2) = (s.at' k).2.length := by simp [Sk.hs, Sk.at', List.getD, hk2]
  simp only [List.getElem_map, hrow, irow, castI, e2]
  rw [e]
  rfl
/-- A list whose ways are those that the document makes of its versions and heights may be, and no other. -/
theorem check_same {s t : Sk} (hf : s.nodes.length ≤ 4096) (hm : ∀ k, k < s.nodes.length → mayE (s.at' k).1 = true ∧ 1 ≤ s.h k ∧ s.h k ≤ 8) (ho : Ones s.es) (h8 : s.head.length = 8) (et : t.es = s.es) (ht : t.hs = s.hs) (t8 : t.head.length = 8) (hl : Linked t s.ord) : Good s ↔ s = t := by
  constructor
  · intro g
    exact linked_unique g.link hl et.symm ht.symm (fun k hk => (g.mem k).2 hk) g.high8 g.head t8
  · intro e
    exact ⟨hf, h8, fun k hk => (hm k hk).1, fun k hk => (hm k hk).2, ho, by rw [e] at hl ⊢; exact hl⟩
theorem sk_eq {s t : Sk} (et : t.es = s.es) (hh : s.head = t.head) (hn : ∀ k, k < s.nodes.length → (s.at' k).2 = (t.at' k).2) : s = t := by
  obtain ⟨sn, sh⟩ := s
  obtain ⟨tn, th⟩ := t
  have hlen : tn.length = sn.length := by
    have := congrArg List.length et
    simpa [Sk.es] using this
  have e2 : sn = tn := by
    refine List.ext_getElem hlen.symm (fun k h1 h2 => ?_)
    have a1 := congrArg (fun m => m[k]?) et
    simp only [Sk.es, List.getElem?_map] at a1
    simp [h1, h2] at a1
    have a2 := hn k h1
    simp [Sk.at', List.getD, h1, h2] at a2
    exact Prod.ext a1.symm a2
  simp only at hh
  rw [hh, e2]

set_option maxHeartbeats 8000000 in
set_option maxRecDepth 100000 in
theorem refCheck_any (s : Sk) (es : List (En × Value)) (vN vH : Value) (w : World) (h : SkE w vN vH s es) :
    Calls Try.prog 19 #[.agg #[vN, vH]] w fun e w' => e = .returned (.int .i64 (errC s)) ∧ Hid (Below w.heap.size w w') := by
  obtain ⟨⟨aN, cN, rfl⟩, ⟨aH, cH, rfl⟩⟩ := h.form
  have h63 : (s.nodes.length : Int) ≤ 9223372036854775807 := by
    obtain ⟨_, _, e, h4, h5⟩ := h.nodes.len
    have := h.len
    unfold maxLen at h5
    omega
  have h64 : (s.head.length : Int) ≤ 9223372036854775807 := by
    obtain ⟨_, _, e, h4, h5⟩ := h.head.len
    unfold maxLen at h5
    omega
  have HU0 : Hid (Below w.heap.size w (w.alloc (.cells #[.slice aN s.nodes.length cN, .slice aH s.head.length cH] 25))) := up_alloc _ _
  by_cases g1 : s.nodes.length ≤ 4096
  · have g1' : ¬ (4096 : Int) < (s.nodes.length : Int) := by omega
    by_cases g2 : s.head.length = 8
    · have HV : Hid (SkE w (.slice aN s.nodes.length cN) (.slice aH s.head.length cH) s es) := h
      have HB0 : Hid ((w.alloc (.cells #[.slice aN s.nodes.length cN, .slice aH s.head.length cH] 25)).heap[w.heap.size]? = some (.cells #[.slice aN s.nodes.length cN, .slice aH s.head.length cH] 25)) := blk_new _ _
      have H8 : Hid (s.head.length = 8) := g2
      have g2' : ((s.head.length : Int) != 8) = false := by simp; omega
      generalize hHL : s.head.length = HL at *
      have HHL : Hid (s.head.length = HL) := hHL
      clear h hHL g2
      go_enter Try.func19, Try.ntmps19
      go_wp2_with fail
      go_loopw [3] (fun q wr => ∃ (i : Nat), i ≤ s.nodes.length ∧ q = .int .i64 (i : Int) ∧ Hid ((∀ k, k < i → mayE (s.at' k).1 = true ∧ 1 ≤ s.h k ∧ s.h k ≤ 8) ∧ ∀ k j, k < j → j < i → twin (s.at' k).1 (s.at' j).1 = false) ∧ Hid (Below w.heap.size w wr ∧ wr.heap[w.heap.size]? = some (.cells #[.slice aN s.nodes.length cN, .slice aH HL cH] 25))) (fun q _ => s.nodes.length - (intOf q).toNat)
      case atStart => exact ⟨0, by omega, rfl, ⟨fun k hk => by omega, fun k j _ hj => by omega⟩, HU0, HB0⟩
      case round =>
        clear HU0 HB0
        obtain ⟨i, hi, rfl, HG, HB⟩ := hrel
        have p0 : wr.cell? ⟨w.heap.size, 0, none⟩ = some (.slice aN s.nodes.length cN) := blk_cell HB.out.2 0 _ rfl
        have p1 : wr.cell? ⟨w.heap.size, 1, none⟩ = some (.slice aH HL cH) := blk_cell HB.out.2 1 _ rfl
        by_cases hlt : i < s.nodes.length
        · have hlt' : (i : Int) < (s.nodes.length : Int) := by omega
          have hi0 : 0 ≤ (i : Int) := by omega
          obtain ⟨b, off, an, cn, rfl, _, hw, y0, y1, y2, y3, y4⟩ := (HV.out.up HB.out.1).node i hlt
          have HEX : Hid (¬ (mayE (s.at' i).1 = true ∧ 1 ≤ s.h i ∧ s.h i ≤ 8) → errC s = 9) := by
            intro hn
            refine errC_bad (fun g => hn ⟨g.may i hlt, g.high i hlt⟩)
          have HEM : Hid (mayE (s.at' i).1 = true → 1 ≤ s.h i ∧ s.h i ≤ 8 → ∀ k, k < i + 1 → mayE (s.at' k).1 = true ∧ 1 ≤ s.h k ∧ s.h k ≤ 8) := by
            intro h1 h2 k hk
            by_cases e : k = i
            · subst e; exact ⟨h1, h2⟩
            · exact HG.out.1 k (by omega)
          have HED : Hid (∀ k, k < i → twin (s.at' k).1 (s.at' i).1 = true → errC s = 9) := by
            intro k hk ht
            refine errC_bad (fun g => ?_)
            have := g.ones k i (by rw [Sk.es_len]; omega) (by rw [Sk.es_len]; exact hlt) (by omega)
            rw [Sk.eAt, Sk.eAt, ht] at this
            cases this
          have hk63 : (s.h i : Int) ≤ 9223372036854775807 := by
            have := (HV.out.up HB.out.1).way (i + 1) (by omega)
            obtain ⟨_, _, _, h4, h5⟩ := this.len
            unfold maxLen at h5
            have e : (s.ways (i + 1)).length = s.h i := rfl
            omega
          have HYE : Hid ((s.at' i).1 = (s.at' i).1) := rfl
          generalize hy : (s.at' i).1 = y at *
          generalize hhk : s.h i = HK at *
          generalize hER : errC s = ER at *
          have HER : Hid (errC s = ER) := hER
          have HY : Hid ((s.at' i).1 = y) := hy
          clear hw hy hhk HYE
          obtain ⟨wz, hwz⟩ : ∃ wz, wz = wr.alloc (.cells #[.string y.key, .int .i64 y.seq, .int .i64 y.kind, .string y.val, .slice an HK cn] 65) := ⟨_, rfl⟩
          have HWZ : Hid (wr.alloc (.cells #[.string y.key, .int .i64 y.seq, .int .i64 y.kind, .string y.val, .slice an HK cn] 65) = wz) := hwz.symm
          have HC := refMay_any y wz
          unfold enV at HC
          have HU2 : Hid (Below wr.heap.size wr (wz.alloc (enObj y))) := by rw [hwz]; exact up_al (up_alloc _ _) _
          have HB2 : Hid (Below w.heap.size w (wz.alloc (enObj y)) ∧ (wz.alloc (enObj y)).heap[w.heap.size]? = some (.cells #[.slice (some ⟨b, off, none⟩) s.nodes.length cN, .slice aH HL cH] 25) ∧ (wz.alloc (enObj y)).heap[wr.heap.size]? = some (.cells #[.string y.key, .int .i64 y.seq, .int .i64 y.kind, .string y.val, .slice an HK cn] 65)) := by
            refine ⟨up_trans HB.out.1 HU2.out, blk_up HB.out.2 HU2.out, ?_⟩
            have : wz.heap[wr.heap.size]? = some (.cells #[.string y.key, .int .i64 y.seq, .int .i64 y.kind, .string y.val, .slice an HK cn] 65) := by rw [hwz]; exact blk_new _ _
            exact blk_up this (up_alloc wz (enObj y))
          clear hwz HB hER
          go_wp2_with fail
          rw [HWZ.out]
          cases hm : mayE y
          · obtain rfl : ER = 9 := HEX.out (fun q => by rw [hm] at q; cases q.1)
            rw [hm] at HC
            refine HC.mono ?_
            rintro e w' ⟨rfl, hw'⟩
            rw [← hw'] at HB2
            clear HC hw'
            go_wp2_with fail
            go_ret
            exact ⟨by rw [HER.out]; rfl, HB2.out.1⟩
          · rw [hm] at HC
            refine HC.mono ?_
            rintro e w' ⟨rfl, hw'⟩
            rw [← hw'] at HB2 HU2
            have c4 : w'.cell? ⟨wr.heap.size, 4, none⟩ = some (.slice an HK cn) := blk_cell HB2.out.2.2 4 _ rfl
            clear HC hw'
            generalize hN7 : wr.heap.size = N7 at *
            by_cases hr1 : HK < 1
            · have hr1' : (HK : Int) < 1 := by omega
              obtain rfl : ER = 9 := HEX.out (fun q => by omega)
              go_wp2_with fail
              go_ret
              exact ⟨by rw [HER.out]; rfl, HB2.out.1⟩
            · have hr1' : ¬ (HK : Int) < 1 := by omega
              by_cases hr2 : 8 < HK
              · have hr2' : (8 : Int) < (HK : Int) := by omega
                obtain rfl : ER = 9 := HEX.out (fun q => by omega)
                go_wp2_with fail
                go_ret
                exact ⟨by rw [HER.out]; rfl, HB2.out.1⟩
              · have hr2' : ¬ (8 : Int) < (HK : Int) := by omega
                have HMM : Hid (∀ k, k < i + 1 → mayE (s.at' k).1 = true ∧ 1 ≤ s.h k ∧ s.h k ≤ 8) := HEM.out hm (by omega)
                go_wp2_with fail
                go_loopw [5] (fun q wx => ∃ k : Nat, k ≤ i ∧ q = .int .i64 (k : Int) ∧ Hid (∀ j, j < k → twin (s.at' j).1 y = false) ∧ ∃ d, wx = w'.drewN d) (fun q _ => i - (intOf q).toNat)
                case atStart => exact ⟨0, by omega, rfl, fun j hj => by omega, 0, rfl⟩
                case round =>
                  obtain ⟨k, hk, rfl, HD, d, rfl⟩ := hrel
                  by_cases hki : k < i
                  · have hki' : (k : Int) < (i : Int) := by omega
                    have hk0 : 0 ≤ (k : Int) := by omega
                    have hkn : (k : Int) < (s.nodes.length : Int) := by omega
                    have q0 : w'.cell? ⟨w.heap.size, 0, none⟩ = some (.slice (some ⟨b, off, none⟩) s.nodes.length cN) := blk_cell HB2.out.2.1 0 _ rfl
                    obtain ⟨b2, off2, _, _, e2, _, _, z0, z1, z2, z3, _⟩ := (HV.out.up HB2.out.1).node k (by omega)
                    simp only [Option.some.injEq, Addr.mk.injEq] at e2
                    obtain ⟨rfl, rfl, _⟩ := e2
                    have n0 : w'.cell? ⟨N7, 0, none⟩ = some (.string y.key) := blk_cell HB2.out.2.2 0 _ rfl
                    have n1 : w'.cell? ⟨N7, 1, none⟩ = some (.int .i64 y.seq) := blk_cell HB2.out.2.2 1 _ rfl
                    have HTW : Hid (twin (s.at' k).1 y = true → ER = 9) := by
                      intro ht
                      exact HED.out k hki ht
                    have HDN : Hid (twin (s.at' k).1 y = false → ∀ j, j < k + 1 → twin (s.at' j).1 y = false) := by
                      intro ht j hj
                      by_cases e : j = k
                      · subst e; exact ht
                      · exact HD.out j (by omega)
                    generalize hz : (s.at' k).1 = z at *
                    clear hz
                    by_cases q1 : z.key.toList = y.key.toList
                    · have q1' : (z.key.toList == y.key.toList) = true := by simp [q1]
                      by_cases q2 : z.seq = y.seq
                      · have q2' : (z.seq == y.seq) = true := by simp [q2]
                        obtain rfl : ER = 9 := HTW.out (by simp [twin, q1, q2])
                        go_wp2_with fail
                        go_quiet (fail)
                        go_wp2_with fail
                        go_ret
                        exact ⟨by rw [HER.out]; rfl, below_drewN (below_drewN HB2.out.1 d) nq⟩
                      · have q2' : (z.seq == y.seq) = false := by simp [q2]
                        have HN := HDN.out (by simp [twin, q2])
                        have HNH : Hid (∀ j, j < k + 1 → twin (s.at' j).1 y = false) := HN
                        clear HN
                        go_wp2_with fail
                        go_quiet (fail)
                        go_wp2_with fail
                        exact ⟨⟨k + 1, by omega, by go_num, HNH, d + nq, rfl⟩, by simp [intOf]; omega⟩
                    · have q1' : (z.key.toList == y.key.toList) = false := by simp [q1]
                      have HN := HDN.out (by simp [twin, q1])
                      have HNH : Hid (∀ j, j < k + 1 → twin (s.at' j).1 y = false) := HN
                      clear HN
                      go_wp2_with fail
                      go_quiet (fail)
                      go_wp2_with fail
                      exact ⟨⟨k + 1, by omega, by go_num, HNH, d + nq, rfl⟩, by simp [intOf]; omega⟩
                  · obtain rfl : k = i := by omega
                    have HNX : Hid ((∀ j, j < k + 1 → mayE (s.at' j).1 = true ∧ 1 ≤ s.h j ∧ s.h j ≤ 8) ∧ ∀ j l, j < l → l < k + 1 → twin (s.at' j).1 (s.at' l).1 = false) := by
                      refine ⟨HMM.out, fun j l hj hl => ?_⟩
                      by_cases e : l = k
                      · subst e
                        rw [HY.out]
                        exact HD.out j hj
                      · exact HG.out.2 j l hj (by omega)
                    have HBX : Hid (Below w.heap.size w (w'.drewN d) ∧ (w'.drewN d).heap[w.heap.size]? = some (.cells #[.slice (some ⟨b, off, none⟩) s.nodes.length cN, .slice aH HL cH] 25)) := ⟨below_drewN HB2.out.1 d, HB2.out.2.1⟩
                    go_wp2_with fail
                    exact ⟨⟨k + 1, by omega, by go_num, HNX, HBX⟩, by simp [intOf]; omega⟩
        · obtain rfl : i = s.nodes.length := by omega
          have HON : Hid (Ones s.es) := by
            intro k j hk hj hne
            rw [Sk.es_len] at hk hj
            rw [Sk.eAt, Sk.eAt]
            rcases Nat.lt_or_ge k j with q | q
            · exact HG.out.2 k j q hj
            · have := HG.out.2 j k (by omega) hk
              cases t : twin (s.at' k).1 (s.at' j).1
              · rfl
              · rw [twin_symm t] at this
                cases this
          have HV1 : Hid (∀ X, Below wr.heap.size wr X → SkE X (.slice aN s.nodes.length cN) (.slice aH HL cH) s es) := fun X hX => HV.out.up (up_trans HB.out.1 hX)
          have HEL : Hid (es.length = s.nodes.length) := HV.out.len
          have HMAY : Hid (∀ k, k < s.nodes.length → mayE (s.at' k).1 = true ∧ 1 ≤ s.h k ∧ s.h k ≤ 8) := HG.out.1
          have HCA : Hid (∀ X, Below wr.heap.size wr X → Calls Try.prog 34 #[.agg #[.slice aN s.nodes.length cN, .slice aH HL cH]] X fun e w' => ∃ a' c', e = .returned (.slice a' s.nodes.length c') ∧ ¬ w'.heap.size = w.heap.size ∧ ¬ w.heap.size = w'.heap.size ∧ w'.cell? ⟨w.heap.size, 0, none⟩ = some (.slice aN s.nodes.length cN) ∧ w'.cell? ⟨w.heap.size, 1, none⟩ = some (.slice aH HL cH) ∧ Hid (IntsR w' (.slice a' s.nodes.length c') (s.hs.map castI) ∧ Below wr.heap.size wr w' ∧ Below X.heap.size X w')) := by
            intro X hX
            have hV := HV1.out X hX
            have hh := heights_any es aN cN (.slice aH HL cH) X (by rw [HEL.out]; exact hV.nodes) (fun p hp => by
              obtain ⟨k, hk⟩ := List.mem_iff_getElem?.1 hp
              obtain ⟨a, c, e, _⟩ := (hV.nexts k p hk).len
              exact ⟨a, _, c, e⟩) (by rw [HEL.out]; exact g1)
            rw [HEL.out] at hh
            refine hh.mono ?_
            rintro e w' ⟨a', c', rfl, ho, hu⟩
            have hb := up_trans hX hu.out
            have k0 := blk_up HB.out.2 hb
            have hlt2 := blk_lt k0
            refine ⟨a', c', rfl, by omega, by omega, blk_cell k0 0 _ rfl, blk_cell k0 1 _ rfl, ?_, hb, hu.out⟩
            have := Rws.own ho.out
            rw [hV.heights] at this
            exact this
          have HCC : Hid (∀ X a' c', Below wr.heap.size wr X → IntsR X (.slice a' s.nodes.length c') (s.hs.map castI) → Calls Try.prog 33 #[.slice aN s.nodes.length cN, .slice a' s.nodes.length c'] X fun e w' => ∃ a1 n1 c1 a2 n2 c2, e = .returned (.agg #[.slice a1 n1 c1, .slice a2 n2 c2]) ∧ w'.cell? ⟨w.heap.size, 0, none⟩ = some (.slice aN s.nodes.length cN) ∧ w'.cell? ⟨w.heap.size, 1, none⟩ = some (.slice aH HL cH) ∧ Hid ((∃ t es', OwnSk w' wr.heap.size 65 (.slice a1 n1 c1) (.slice a2 n2 c2) t es' ∧ t.es = s.es ∧ t.hs = s.hs ∧ t.head.length = 8 ∧ Linked t s.ord) ∧ Below wr.heap.size wr w' ∧ Below X.heap.size X w')) := by
            intro X a' c' hX hI
            have hV := HV1.out X hX
            have hw := refWays_any es s.hs aN cN a' c' X (by rw [HEL.out]; exact hV.nodes) (by rw [HEL.out]; exact hI) (by simp [Sk.hs, HEL.out]) (by rw [HEL.out]; exact g1) (by
              intro h hh
              obtain ⟨nd, hnd, rfl⟩ := List.mem_map.1 hh
              obtain ⟨k, hk⟩ := List.mem_iff_getElem?.1 hnd
              have hk' := (List.getElem?_eq_some_iff.1 hk).1
              have := (HMAY.out k hk').2.2
              have e : s.at' k = nd := by simp [Sk.at', List.getD, hk]
              unfold Sk.h at this
              rw [e] at this
              exact this) (by rw [hV.ents]; exact HON.out)
            rw [HEL.out] at hw
            refine hw.mono ?_
            rintro e w' ⟨vN', vH', rfl, ⟨t, es', ho⟩, hu⟩
            obtain ⟨⟨a1, c1, rfl⟩, ⟨a2, c2, rfl⟩⟩ := ho.out.1.read.form
            have hb := up_trans hX hu.out
            have k0 := blk_up HB.out.2 hb
            refine ⟨a1, _, c1, a2, _, c2, rfl, blk_cell k0 0 _ rfl, blk_cell k0 1 _ rfl, ⟨t, es', ho.out.1.mono hX.size, ho.out.2.1.trans hV.ents, ho.out.2.2.1, ho.out.2.2.2.1, ?_⟩, hb, hu.out⟩
            have := ho.out.2.2.2.2
            rw [hV.ents] at this
            exact this
          have HCB : Hid (∀ X a' c' T, Below wr.heap.size wr X → IntsR X (.slice a' s.nodes.length c') (s.hs.map castI) → X.heap[T]? = some (.cells #[.slice none 0 0, .slice none 0 0] 25) → Calls Try.prog 33 #[.slice aN s.nodes.length cN, .slice a' s.nodes.length c'] X fun e w' => ∃ a1 n1 c1 a2 n2 c2, e = .returned (.agg #[.slice a1 n1 c1, .slice a2 n2 c2]) ∧ w'.cell? ⟨w.heap.size, 0, none⟩ = some (.slice aN s.nodes.length cN) ∧ w'.cell? ⟨w.heap.size, 1, none⟩ = some (.slice aH HL cH) ∧ w'.cell? ⟨T, 0, none⟩ = some (.slice none 0 0) ∧ w'.cell? ⟨T, 1, none⟩ = some (.slice none 0 0) ∧ w'.frozen? ⟨T, 0, none⟩ = false ∧ w'.frozen? ⟨T, 1, none⟩ = false ∧ Hid (((∃ t es', OwnSk w' wr.heap.size 65 (.slice a1 n1 c1) (.slice a2 n2 c2) t es' ∧ t.es = s.es ∧ t.hs = s.hs ∧ t.head.length = 8 ∧ Linked t s.ord) ∧ Below wr.heap.size wr w') ∧ w'.heap[T]? = some (.cells #[.slice none 0 0, .slice none 0 0] 25))) := by
            intro X a' c' T hX hI hT
            refine (HCC.out X a' c' hX hI).mono ?_
            rintro e w' ⟨a1, n1, c1, a2, n2, c2, rfl, k0, k1, hs⟩
            have kb := blk_up hT hs.out.2.2
            exact ⟨a1, n1, c1, a2, n2, c2, rfl, k0, k1, blk_cell kb 0 _ rfl, blk_cell kb 1 _ rfl, blk_frozen kb 0, blk_frozen kb 1, ⟨hs.out.1, hs.out.2.1⟩, kb⟩
          have U0 : Hid (Below wr.heap.size wr wr.drew) := up_dr (Below.refl _ _)
          have U1 : Hid (Below wr.heap.size wr (wr.alloc (.cells #[.slice none 0 0, .slice none 0 0] 25)).drew) := up_dr (up_al (Below.refl _ _) _)
          have T1 : Hid ((wr.alloc (.cells #[.slice none 0 0, .slice none 0 0] 25)).drew.heap[wr.heap.size]? = some (.cells #[.slice none 0 0, .slice none 0 0] 25)) := blk_up (blk_new wr _) (up_dr (Below.refl _ _))
          have z1 : ¬ wr.heap.size = w.heap.size := by have := blk_lt HB.out.2; omega
          have z2 : ¬ w.heap.size = wr.heap.size := fun q => z1 q.symm
          have dd0 := fun o => ((up_dr (up_al (Below.refl wr.heap.size wr) o)).cell (World.block_lt_of_cell? _ _ p0)).trans p0
          have dd1 := fun o => ((up_dr (up_al (Below.refl wr.heap.size wr) o)).cell (World.block_lt_of_cell? _ _ p1)).trans p1
          go_upto_region 14 with fail
          go_cut [6] from 75 to 79 (fun sA wy => ∃ (T : Nat) (a1 : Option Addr) (n1 c1 : Nat) (a2 : Option Addr) (n2 c2 : Nat), sA = .pointer (some ⟨T, 0, none⟩) ∧ Hid (wy.heap[T]? = some (.cells #[.slice a1 n1 c1, .slice a2 n2 c2] 25) ∧ (∃ t es', OwnSk wy wr.heap.size 65 (.slice a1 n1 c1) (.slice a2 n2 c2) t es' ∧ t.es = s.es ∧ t.hs = s.hs ∧ t.head.length = 8 ∧ Linked t s.ord) ∧ Below wr.heap.size wr wy))
          case first =>
            go_region_held3 (fun w' => w'.cell? ⟨w.heap.size, 0, none⟩ = some (.slice aN s.nodes.length cN) ∧ w'.cell? ⟨w.heap.size, 1, none⟩ = some (.slice aH HL cH)) (first | with_reducible exact ⟨y0, y1⟩ | with_reducible exact ⟨p0, p1⟩ | with_reducible exact ⟨dd0 _, dd1 _⟩ | with_reducible exact ⟨cell_al _ y0, cell_al _ y1⟩ | (simp [go_sem, y0, y1, n1, n2]; done) | (simp [go_sem, y0, y1, z1, z2]; done) | (simp [go_sem, y0, y1]; done) | (simp [go_sem, p0, p1]; done)) (first
              | (go_at_call 34; with_reducible refine (HCA.out _ U0.out).mono ?_; rintro e w2 ⟨a', c', rfl, n1, n2, y0, y1, hs⟩)
              | (go_at_call 34; with_reducible refine (HCA.out _ U1.out).mono ?_; rintro e w2 ⟨a', c', rfl, n1, n2, y0, y1, hs⟩; have kT := blk_up T1.out hs.out.2.2)
              | (go_at_call 33; with_reducible refine (HCB.out _ a' c' wr.heap.size hs.out.2.1 hs.out.1 kT).mono ?_; rintro e w3 ⟨a1, m1, c1, a2, m2, c2, rfl, y0, y1, t0, t1, f0, f1, hr⟩)
              | (go_at_call 33; with_reducible refine (HCB.out (w2.alloc (.cells #[.slice none 0 0, .slice none 0 0] 25)) a' c' w2.heap.size (up_al hs.out.2.1 _) (IntsR.up hs.out.1 (up_alloc _ _)) (blk_new _ _)).mono ?_; rintro e w3 ⟨a1, m1, c1, a2, m2, c2, rfl, y0, y1, t0, t1, f0, f1, hr⟩)
              | (go_at_call 33; with_reducible refine (HCC.out _ a' c' hs.out.2.1 hs.out.1).mono ?_; rintro e w3 ⟨a1, m1, c1, a2, m2, c2, rfl, y0, y1, hr⟩))
            · clear y0 y1
              go_wp2_with fail
              go_meet
              case rel =>
                refine ⟨_, a1, m1, c1, a2, m2, c2, rfl, ?_⟩
                obtain ⟨⟨t, es', ho, hq⟩, hb, _⟩ := hr.out
                unfold Hid
                exact ⟨blk_new _ _, ⟨t, es', ho.up (up_alloc _ _), hq⟩, up_al hb _⟩
            · clear y0 y1 t0 t1 f0 f1
              go_wp2_with fail
              go_meet
              case rel =>
                refine ⟨_, a1, m1, c1, a2, m2, c2, rfl, ?_⟩
                obtain ⟨⟨⟨t, es', ho, hq⟩, hb⟩, hT⟩ := hr.out
                have g2 := set2_grown w3 w2.heap.size (.slice a1 m1 c1) (.slice a2 m2 c2)
                unfold Hid
                exact ⟨set2_blk hT _ _, ⟨t, es', ho.block hT (by decide) (by decide) g2, hq⟩, hb.grown g2 hb.size (fun k hk => by injection hk with hk; have := hs.out.2.1.size; omega)⟩
            · clear y0 y1 t0 t1 f0 f1
              go_wp2_with fail
              go_meet
              case rel =>
                refine ⟨_, a1, m1, c1, a2, m2, c2, rfl, ?_⟩
                obtain ⟨⟨⟨t, es', ho, hq⟩, hb⟩, hT⟩ := hr.out
                have g2 := set2_grown w3 wr.heap.size (.slice a1 m1 c1) (.slice a2 m2 c2)
                unfold Hid
                exact ⟨set2_blk hT _ _, ⟨t, es', ho.block hT (by decide) (by decide) g2, hq⟩, hb.grown g2 hb.size (fun k hk => by injection hk with hk; omega)⟩
          case rest =>
          clear HCA HCB HCC U0 U1 T1 z1 z2 dd0 dd1 p0 p1
          obtain ⟨T, a1, m1, c1, a2, m2, c2, rfl, HT⟩ := hcut
          obtain ⟨t, es', hto⟩ := HT.out.2.1
          have HTT : Hid (OwnSk wc wr.heap.size 65 (.slice a1 m1 c1) (.slice a2 m2 c2) t es' ∧ t.es = s.es ∧ t.hs = s.hs ∧ t.head.length = 8 ∧ Linked t s.ord) := hto
          have HWC : Hid (Below w.heap.size w wc ∧ wc.heap[w.heap.size]? = some (.cells #[.slice aN s.nodes.length cN, .slice aH HL cH] 25) ∧ wc.heap[T]? = some (.cells #[.slice a1 m1 c1, .slice a2 m2 c2] 25)) := ⟨up_trans HB.out.1 HT.out.2.2, blk_up HB.out.2 HT.out.2.2, HT.out.1⟩
          have HSC : Hid (SkE wc (.slice aN s.nodes.length cN) (.slice aH HL cH) s es) := HV1.out _ HT.out.2.2
          have HGI : Hid (Good s ↔ s = t) := check_same g1 HMAY.out HON.out (by rw [HHL.out]; exact H8.out) hto.2.1 hto.2.2.1 hto.2.2.2.1 hto.2.2.2.2
          have HTL : Hid (t.nodes.length = s.nodes.length ∧ m1 = t.nodes.length) := by
            refine ⟨by rw [← Sk.es_len, ← Sk.es_len, hto.2.1], ?_⟩
            obtain ⟨⟨_, _, e⟩, _⟩ := hto.1.read.form
            simp only [Value.slice.injEq] at e
            exact e.2.1
          clear hto HT HB
          have p1 : wc.cell? ⟨w.heap.size, 1, none⟩ = some (.slice aH HL cH) := blk_cell HWC.out.2.1 1 _ rfl
          have q1 : wc.cell? ⟨T, 1, none⟩ = some (.slice a2 m2 c2) := blk_cell HWC.out.2.2 1 _ rfl
          have HSH := refSame_any s.head t.head (.slice aH HL cH) (.slice a2 m2 c2) wc HSC.out.head HTT.out.1.read.head
          go_wp2_with fail
          refine HSH.mono ?_
          rintro e w5 ⟨rfl, d, hw5⟩
          rw [hw5]
          clear HSH hw5 w5 p1 q1
          by_cases hhd : s.head = t.head
          · have hdd : decide (s.head = t.head) = true := by simp [hhd]
            rw [hdd]
            have HHD : Hid (s.head = t.head) := hhd
            clear hdd hhd
            go_wp2_with fail
            go_loopw [7] (fun q wx => ∃ k : Nat, k ≤ s.nodes.length ∧ q = .int .i64 (k : Int) ∧ Hid ((∀ j, j < k → (s.at' j).2 = (t.at' j).2) ∧ Below wc.heap.size wc wx)) (fun q _ => s.nodes.length - (intOf q).toNat)
            case atStart => exact ⟨0, by omega, rfl, fun j hj => by omega, below_drewN (Below.refl _ _) d⟩
            case round =>
              obtain ⟨k, hk, rfl, HK⟩ := hrel
              have p0 : wr.cell? ⟨w.heap.size, 0, none⟩ = some (.slice aN s.nodes.length cN) := blk_cell (blk_up HWC.out.2.1 HK.out.2) 0 _ rfl
              have q0 : wr.cell? ⟨T, 0, none⟩ = some (.slice a1 m1 c1) := blk_cell (blk_up HWC.out.2.2 HK.out.2) 0 _ rfl
              by_cases hkl : k < s.nodes.length
              · have hkl' : (k : Int) < (s.nodes.length : Int) := by omega
                have hkm : (k : Int) < (m1 : Int) := by have := HTL.out; omega
                have hk0 : 0 ≤ (k : Int) := by omega
                obtain ⟨b, off, an, cn, rfl, _, hw, _, _, _, _, y4⟩ := (HSC.out.up HK.out.2).node k hkl
                obtain ⟨b2, off2, an2, cn2, rfl, hx_, hw2, _, _, _, _, z4⟩ := (HTT.out.1.read.up HK.out.2).node k (by rw [HTL.out.1]; exact hkl)
                clear hx_
                have HI1 := (HSC.out.up HK.out.2).way (k + 1) (by omega)
                rw [hw] at HI1
                have HI2 := (HTT.out.1.read.up HK.out.2).way (k + 1) (by rw [HTL.out.1]; omega)
                rw [hw2] at HI2
                have HI : Hid (IntsR wr (.slice an (s.h k) cn) (s.at' k).2 ∧ IntsR wr (.slice an2 (t.h k) cn2) (t.at' k).2) := ⟨HI1, HI2⟩
                clear HI1 HI2 hw hw2
                generalize hh1 : s.h k = h1 at *
                generalize hh2 : t.h k = h2 at *
                have P0 := cell_up p0
                have Q0 := cell_up q0
                have Y4 := cell_up y4
                have Z4 := cell_up z4
                have HCS : Hid (∀ p : UpW wr, Calls Try.prog 41 #[.slice an h1 cn, .slice an2 h2 cn2] p.val fun e w' => e = .returned (.bool (decide ((s.at' k).2 = (t.at' k).2))) ∧ Below p.val.heap.size p.val w') := by
                  intro p
                  refine (refSame_any (s.at' k).2 (t.at' k).2 _ _ p.val (HI.out.1.up p.up) (HI.out.2.up p.up)).mono ?_
                  rintro e w' ⟨rfl, d, rfl⟩
                  exact ⟨rfl, below_drewN (Below.refl _ _) d⟩
                clear hh1 hh2 q0 y4 z4
                by_cases hne : (s.at' k).2 = (t.at' k).2
                · have hdd : decide ((s.at' k).2 = (t.at' k).2) = true := by simp [hne]
                  rw [hdd] at HCS
                  have HKN : Hid (∀ j, j < k + 1 → (s.at' j).2 = (t.at' j).2) := by
                    intro j hj
                    by_cases e : j = k
                    · subst e; exact hne
                    · exact HK.out.1 j (by omega)
                  clear hdd hne
                  go_upto_region 20 with fail
                  refine wp_region_up (by kernel_rfl) (by kernel_rfl) ?_
                  repeat (quiet_step ((go_at_call 41; refine calls_up (HCS.out _))))
                  refine wpQuiet_nil ?_
                  intro _ hw'
                  obtain ⟨p, hw''⟩ := hw'
                  subst hw''
                  have HBP : Hid (Below wc.heap.size wc p.val) := up_trans HK.out.2 p.up
                  go_wp2_with fail
                  exact ⟨⟨k + 1, by omega, by go_num, HKN.out, HBP.out⟩, by simp [intOf]; omega⟩
                · have hdd : decide ((s.at' k).2 = (t.at' k).2) = false := by simp [hne]
                  rw [hdd] at HCS
                  have HE9 : Hid (errC s = 9) := errC_bad (fun g => hne (by rw [← HGI.out.1 g]))
                  clear hdd hne
                  go_upto_region 20 with fail
                  refine wp_region_up (by kernel_rfl) (by kernel_rfl) ?_
                  repeat (quiet_step ((go_at_call 41; refine calls_up (HCS.out _))))
                  refine wpQuiet_nil ?_
                  intro _ hw'
                  obtain ⟨p, hw''⟩ := hw'
                  subst hw''
                  have HBP : Hid (Below w.heap.size w p.val) := up_trans HWC.out.1 (up_trans HK.out.2 p.up)
                  go_wp2_with fail
                  go_ret
                  exact ⟨by rw [HE9.out]; rfl, HBP⟩
              · have HE0 : Hid (errC s = 0) := errC_good (HGI.out.2 (sk_eq HTT.out.2.1 HHD.out (fun j hj => HK.out.1 j (by omega))))
                have hkl' : ¬ (k : Int) < (s.nodes.length : Int) := by omega
                have HBP : Hid (Below w.heap.size w wr) := up_trans HWC.out.1 HK.out.2
                go_wp2_with fail
                go_ret
                exact ⟨by rw [HE0.out]; rfl, HBP⟩
          · have hdd : decide (s.head = t.head) = false := by simp [hhd]
            rw [hdd]
            have HE9 : Hid (errC s = 9) := errC_bad (fun g => hhd (by rw [← HGI.out.1 g]))
            have HBP : Hid (Below w.heap.size w (wc.drewN d)) := below_drewN HWC.out.1 d
            clear hdd hhd
            go_wp2_with fail
            go_ret
            exact ⟨by rw [HE9.out]; rfl, HBP⟩
    · have e9 : errC s = 9 := errC_bad (fun g => g2 g.head)
      rw [e9]
      have g2' : ((s.head.length : Int) != 8) = true := by simp; omega
      go_enter Try.func19, Try.ntmps19
      go_wp2_with fail
      go_ret
      exact ⟨rfl, HU0⟩
  · have e9 : errC s = 9 := errC_bad (fun g => g1 g.few)
    rw [e9]
    have g1' : (4096 : Int) < (s.nodes.length : Int) := by omega
    go_enter Try.func19, Try.ntmps19
    go_wp2_with fail
    go_ret
    exact ⟨rfl, HU0⟩
end Go.Proofs.Ytmiokopnhkojoaa
