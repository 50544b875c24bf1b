
import Derived.Test.YthiegmhplnbdlaaGreatG49
namespace Go.Proofs.YthiegmhplnbdlaaGreat
open Go.RowKit SumPlain
set_option linter.unusedVariables false
set_option linter.unusedSimpArgs false
set_option maxRecDepth 100000
set_option maxHeartbeats 40000000 in
theorem top_walk (ls : List (List Chg)) (hs : List Nat) (seq : Int) (la : Option Addr) (ln lc : Nat) (ha : Option Addr) (hn hc : Nat) (w : World) (hl : LstR w (.slice la ln lc) ls) (hh : DrwR w (.slice ha hn hc) hs) (hL : ls.length ≤ 9223372036854775807) (hH : hs.length ≤ 9223372036854775807) :
    Calls Tryz.prog 3 #[.slice la ln lc, .slice ha hn hc, .int .i64 seq] w fun e w' => e = .returned (.bool true) ∧ Below w.heap.size w w' := by
  have HL := hid hl
  have HH := hid hh
  have hnl : ln = ls.length := by
    obtain ⟨us, h1, h2, _⟩ := hl
    obtain ⟨a9, c9, e9, _⟩ := Rws.len h1
    simp only [Value.slice.injEq, List.length_map] at e9
    omega
  have hnh : hn = hs.length := by
    obtain ⟨a9, c9, e9, _⟩ := Rws.len hh.1
    simp only [Value.slice.injEq, List.length_map] at e9
    exact e9.2.1
  subst hnl hnh
  clear hl hh
  go_enter Tryz.func3, Tryz.ntmps3
  go_wp2_with fail
  refine (turns_any _).mono ?_
  rintro e w1 ⟨rfl, U1⟩
  have HL1 := hid (HL.out.up U1.out)
  go_wp2_with fail
  go_loopw [7, 8, 9] (fun vl vn vi wr => ∃ (k ll : Nat) (gs : List (Int × List Chg)) (next : Int) (ga : Option Addr) (gc : Nat), k ≤ 12 ∧ vl = .slice ga ll gc ∧ vn = .int .i64 next ∧ vi = .int .i64 k ∧ Hid (gs.length ≤ k ∧ LogI gs next ∧ Octs wr (.slice ga ll gc) (catF (gs.map recOf)) ∧ ll = (catF (gs.map recOf)).length) ∧ Hid (Below w1.heap.size w1 wr)) (fun _ _ vi _ => 12 - (intOf vi).toNat)
  case atStart => exact ⟨0, 0, [], 1, none, 0, by omega, rfl, rfl, rfl, ⟨Nat.le_refl _, LogI.nil, octs_nil _, rfl⟩, Below.refl _ _⟩
  case round =>
    obtain ⟨k, ll, gs, next, ga, gc, hk, rfl, rfl, rfl, HG, hU⟩ := hrel
    go_upto_region 6 with fail
    go_cut [55] from 48 to 54 (fun sA wy => sA = .bool (decide (k < ls.length ∧ k < 12)) ∧ wy = wr)
    case first =>
      by_cases q1 : k < ls.length
      · have q1' : (k : Int) < (ls.length : Int) := by omega
        by_cases q2 : k < 12
        · have q2' : (k : Int) < 12 := by omega
          go_wp2_with fail
          go_meet
          case rel => exact ⟨by simp [q1, q2], rfl⟩
        · have q2' : ¬ (k : Int) < 12 := by omega
          go_wp2_with fail
          go_meet
          case rel => exact ⟨by simp [q1, q2], rfl⟩
      · have q1' : ¬ (k : Int) < (ls.length : Int) := by omega
        go_wp2_with fail
        go_meet
        case rel => exact ⟨by simp [q1], rfl⟩
    case rest =>
    obtain ⟨rfl, hcw⟩ := hcut
    rw [hcw]
    clear hcw
    by_cases hlt : k < ls.length ∧ k < 12
    · have hd : decide (k < ls.length ∧ k < 12) = true := by simp [hlt]
      rw [hd]
      obtain ⟨b, off, cap, ca, cc, r, e, hr, z0, hC⟩ := (HL1.out.up hU.out).at k hlt.1
      simp only [Value.slice.injEq] at e
      obtain ⟨rfl, hz1, rfl⟩ := e
      have hlt1 : (k : Int) < (ls.length : Int) := by omega
      have hk12 : k + 1 ≤ 12 := by omega
      obtain ⟨wa, hwa⟩ : ∃ wa, wa = wr.alloc (.cells #[.int .i64 next, .slice ca r.length cc] 28) := ⟨_, rfl⟩
      have UA : Hid (Below wr.heap.size wr wa) := by rw [hwa]; exact up_alloc _ _
      have DA : Hid (wa.heap[wr.heap.size]? = some (.cells #[.int .i64 next, .slice ca r.length cc] 28)) := by rw [hwa]; exact blk_new _ _
      have d0 : wa.cell? ⟨wr.heap.size, 0, none⟩ = some (.int .i64 next) := blk_cell DA.out 0 _ rfl
      have d1 : wa.cell? ⟨wr.heap.size, 1, none⟩ = some (.slice ca r.length cc) := blk_cell DA.out 1 _ rfl
      have HCK := hid (check_anyW next r ca cc wa (hC.up UA.out))
      have HCA : Hid (∀ w5, Below wa.heap.size wa w5 → ChgsR w5 (.slice ca r.length cc) r ∧ w5.cell? ⟨b, off + k, none⟩ = some (.slice ca r.length cc) ∧ w5.heap[wr.heap.size]? = some (.cells #[.int .i64 next, .slice ca r.length cc] 28) ∧ Octs w5 (.slice ga ll gc) (catF (gs.map recOf)) ∧ Below w1.heap.size w1 w5) := fun w5 h5 => by
        have u := up_trans UA.out h5
        exact ⟨hC.up u, (u.cell (p := ⟨b, off + k, none⟩) (World.block_lt_of_cell? wr ⟨b, off + k, none⟩ z0)).trans z0, blk_up DA.out h5, HG.out.2.2.1.up u, up_trans hU.out u⟩
      clear hz1 hlt hd hC
      go_upto_region 9 with fail
      rw [← hwa]
      clear hwa z0
      go_wp2_with fail
      refine HCK.out.mono ?_
      rintro e w5 ⟨rfl, u5⟩
      have H5 := hid (HCA.out w5 u5)
      clear d0 d1 HCK
      by_cases h0 : checkOf next r = 0
      · have hll : ll = (catF (gs.map recOf)).length := HG.out.2.2.2
        have HO5 := H5.out.2.2.2.1
        have hlen := log_len HG.out.2.1.row.ok
        have hgk := HG.out.1
        rw [hll] at HO5
        have HAD := hid (add_good next r ca cc (catF (gs.map recOf)) ga gc w5 H5.out.1 HO5 (by omega) h0)
        rw [← hll] at HAD
        have d0 : w5.cell? ⟨wr.heap.size, 0, none⟩ = some (.int .i64 next) := blk_cell H5.out.2.2.1 0 _ rfl
        have d1 : w5.cell? ⟨wr.heap.size, 1, none⟩ = some (.slice ca r.length cc) := blk_cell H5.out.2.2.1 1 _ rfl
        have hnx : IntKind.i64.wrap (next + (r.length : Int)) = next + (r.length : Int) := by
          have h1 := HG.out.2.1.len
          have h2 := HG.out.2.1.few
          have h3 := (checkOf_ok h0).2.1.2
          rw [IntKind.wrap_i64]
          omega
        have HLS : Hid (LogI (gs ++ [(next, r)]) (next + (r.length : Int))) := HG.out.2.1.snoc h0
        have HCF : Hid (catF ((gs ++ [(next, r)]).map recOf) = catF (gs.map recOf) ++ frameOf 1 (encOf next r)) := by
          unfold Hid
          rw [List.map_append]
          exact catF_snoc _ _
        have HGL : Hid ((gs ++ [(next, r)]).length ≤ k + 1) := by unfold Hid; rw [List.length_append, List.length_singleton]; omega
        rw [h0]
        clear hll HO5 hlen hgk h0
        go_wp2_with fail
        refine HAD.out.mono ?_
        rintro e w6 ⟨a6, n6, c6, rfl, O6, u6⟩
        have x6 : w6.cell? ⟨b, off + k, none⟩ = some (.slice ca r.length cc) := (u6.out.cell (p := ⟨b, off + k, none⟩) (World.block_lt_of_cell? w5 ⟨b, off + k, none⟩ H5.out.2.1)).trans H5.out.2.1
        have HF : Hid ((gs ++ [(next, r)]).length ≤ k + 1 ∧ LogI (gs ++ [(next, r)]) (next + (r.length : Int)) ∧ Octs w6 (.slice a6 n6 c6) (catF ((gs ++ [(next, r)]).map recOf)) ∧ n6 = (catF ((gs ++ [(next, r)]).map recOf)).length) := by
          have ho := O6.out
          rw [← HCF.out] at ho
          obtain ⟨a9, c9, e9, _⟩ := own_len ho
          simp only [Value.slice.injEq] at e9
          exact ⟨HGL.out, HLS.out, Octs.own ho (log_octs HLS.out.row), e9.2.1⟩
        have HU6 : Hid (Below w1.heap.size w1 w6) := up_trans H5.out.2.2.2.2 u6.out
        clear d0 d1 HAD O6 HLS HCF HGL H5
        go_wp2_with fail
        exact ⟨⟨k + 1, n6, _, _, a6, c6, hk12, rfl, rfl, by go_num, HF, HU6⟩, by simp [intOf]; omega⟩
      · have hb1 : (checkOf next r != 0) = true := by simp [h0]
        have hb2 : (checkOf next r = 0) = False := by simp [h0]
        have HF : Hid (gs.length ≤ k + 1 ∧ LogI gs next ∧ Octs w5 (.slice ga ll gc) (catF (gs.map recOf)) ∧ ll = (catF (gs.map recOf)).length) := ⟨by have := HG.out.1; omega, HG.out.2.1, H5.out.2.2.2.1, HG.out.2.2.2⟩
        have HU5 : Hid (Below w1.heap.size w1 w5) := H5.out.2.2.2.2
        clear h0 H5
        go_wp2_with fail
        exact ⟨⟨k + 1, ll, gs, next, ga, gc, hk12, rfl, rfl, by go_num, HF, HU5⟩, by simp [intOf]; omega⟩
    · have hd : decide (k < ls.length ∧ k < 12) = false := by simp [hlt]
      rw [hd]
      have hll : ll = (catF (gs.map recOf)).length := HG.out.2.2.2
      have hlen := log_len HG.out.2.1.row.ok
      have hgk := HG.out.1
      have HRP := hid (replay_of (catF (gs.map recOf)) (.slice ga ll gc) wr HG.out.2.2.1 (by omega) gs (replOf_all 4 gs HG.out.2.1.row) ll (by rw [sizeR_trip]; exact hll.symm))
      have HLG : Hid (LogI gs next) := HG.out.2.1
      have hgs : gs.length ≤ 12 := by omega
      have UR : Hid (Below w.heap.size w wr) := up_trans U1.out hU.out
      have hll63 : ll ≤ 9223372036854775807 := by omega
      clear hll hlen hgk HG hd hlt hU
      go_wp2_with fail
      refine HRP.out.mono ?_
      rintro e w2 ⟨ys, ya, yc, rfl, HY, u2⟩
      have HNW := hid (new_any w2)
      have U2 : Hid (Below w.heap.size w w2) := up_trans UR.out u2.out
      clear HRP UR u2
      go_wp2_with fail
      refine HNW.out.mono ?_
      rintro e w3 ⟨e1, e2, e3, e4, rfl, HS3, u3⟩
      have HT0 : Hid (TopS w2 w3.heap.size (allE gs) 0 none 0 (w3.alloc (.cells #[.slice e1 0 e2, .slice e3 8 e4] 39))) := ⟨e1, e3, 0, e2, 8, e4, emptyS, [], [], TopI.nil u3.out HS3.out⟩
      have HYL : Hid (ys.length = gs.length) := by
        have := congrArg List.length HY.out.2
        rwa [List.length_map] at this
      have hys : ys.length ≤ 12 := by have := HYL.out; omega
      obtain ⟨B, hB⟩ : ∃ B, B = w3.heap.size := ⟨_, rfl⟩
      obtain ⟨w4, hw4⟩ : ∃ w4, w4 = w3.alloc (.cells #[.slice e1 0 e2, .slice e3 8 e4] 39) := ⟨_, rfl⟩
      rw [← hw4, ← hB] at HT0
      clear HNW HS3 u3
      go_upto_region 17 with fail
      rw [← hw4, ← hB]
      clear hw4 hB
      go_wp2_with fail
      go_loopw [16, 17, 18] (fun vr vk vi wr => ∃ (i K : Nat) (ra : Option Addr) (rc : Nat), i ≤ ys.length ∧ vr = .slice ra K rc ∧ vk = .int .i64 K ∧ vi = .int .i64 i ∧ Hid (K = (allE (gs.take i)).length ∧ TopS w2 B (allE gs) K ra rc wr)) (fun _ _ vi _ => ys.length - (intOf vi).toNat)
      case atStart => exact ⟨0, 0, none, 0, Nat.zero_le _, rfl, rfl, rfl, ⟨by simp [allE], HT0.out⟩⟩
      case round =>
        obtain ⟨i, K, ra, rc, hi, rfl, rfl, rfl, HK⟩ := hrel
        by_cases hlt : i < ys.length
        · have hlt' : (i : Int) < (ys.length : Int) := by omega
          have UW : Hid (Below w2.heap.size w2 wr) := by
            obtain ⟨_, _, _, _, _, _, _, _, _, hT⟩ := HK.out.2
            exact hT.below
          obtain ⟨b, off, cap, ca, cc, sq, cs, e, hz1, hz2, hy, z0, z1, hC⟩ := (HY.out.1.up UW.out).at i hlt
          simp only [Value.slice.injEq] at e
          obtain ⟨rfl, hz3, rfl⟩ := e
          have HGI : Hid (gs[i]? = some (sq, cs)) := by
            unfold Hid
            rw [← HY.out.2, List.getElem?_map, hy]
            rfl
          have h0 : checkOf sq cs = 0 := HLG.out.row.ok (sq, cs) (List.mem_of_getElem? HGI.out)
          have hcs : cs.length ≤ 64 := (checkOf_ok h0).2.1.2
          have HKL : Hid (K + cs.length ≤ 768) := by
            have h1 := HLG.out.few
            obtain ⟨r, hr⟩ := all_pre gs (i + 1)
            have h2 := congrArg List.length hr
            rw [all_take HGI.out, List.length_append, List.length_append, entE_len] at h2
            have h3 := HK.out.1
            unfold Hid
            simp only at h2
            omega
          have HEN := hid (entries_good sq cs ca cc wr hC h0)
          clear hz1 hz2 hz3 hy hC h0
          go_wp2_with fail
          refine HEN.out.mono ?_
          rintro e w5 ⟨va, vn, vc, rfl, O5, u5⟩
          have OV : Hid (OwnR w5 w2.heap.size 50 4 (.slice va vn vc) ((entE sq cs).map enRow)) := by
            have := O5.out
            rw [entE_rows] at this
            exact this.mono UW.out.size
          have hvn : vn = cs.length := by
            obtain ⟨a9, c9, e9, _⟩ := Rws.len (Rws.own OV.out)
            simp only [Value.slice.injEq, List.length_map, entE_len] at e9
            exact e9.2.1
          subst hvn
          have HT5 : Hid (TopS w2 B (allE gs) K ra rc w5) := HK.out.2.up u5.out
          have HK0 : Hid (K = (allE (gs.take i)).length) := HK.out.1
          have hKc : K + cs.length ≤ 768 := HKL.out
          clear O5 u5 HEN z0 z1 UW HK HKL
          go_wp2_with fail
          go_loopw [16, 17, 21] (fun vr vk vj wr => ∃ (j K' : Nat) (ra : Option Addr) (rc : Nat), j ≤ cs.length ∧ K' = K + j ∧ vr = .slice ra K' rc ∧ vk = .int .i64 K' ∧ vj = .int .i64 j ∧ Hid (TopS w2 B (allE gs) K' ra rc wr ∧ OwnR wr w2.heap.size 50 4 (.slice va cs.length vc) ((entE sq cs).map enRow))) (fun _ _ vj _ => cs.length - (intOf vj).toNat)
          case atStart => exact ⟨0, K, ra, rc, Nat.zero_le _, rfl, rfl, rfl, rfl, ⟨HT5.out, OV.out⟩⟩
          case round =>
            obtain ⟨j, K', ra', rc', hj, hK', rfl, rfl, rfl, HJ⟩ := hrel
            by_cases hjl : j < cs.length
            · have hjl' : (j : Int) < (cs.length : Int) := by omega
              obtain ⟨b1, b2, n1, d1, m1, d2, sk, es, bl, hT⟩ := HJ.out.1
              obtain ⟨b, off, cap, x, e, hx, _, _, _, _⟩ := EntsR.at (show EntsR wr (.slice va cs.length vc) (entE sq cs) from Rws.own HJ.out.2) j (by rw [entE_len]; exact hjl)
              simp only [Value.slice.injEq] at e
              obtain ⟨rfl, hz1, rfl⟩ := e
              clear hz1
              have HVX : Hid ((allE gs)[K']? = some x) := by
                unfold Hid
                rw [hK', HK0.out]
                exact all_at HGI.out hx
              have HXC : Hid (∀ X, OwnR X w2.heap.size 50 4 (.slice (some ⟨b, off, none⟩) cs.length vc) ((entE sq cs).map enRow) → X.cell? ⟨b, off + j * 4, none⟩ = some (.string x.key) ∧ X.cell? ⟨b, off + j * 4 + 1, none⟩ = some (.int .i64 x.seq) ∧ X.cell? ⟨b, off + j * 4 + 2, none⟩ = some (.int .i64 x.kind) ∧ X.cell? ⟨b, off + j * 4 + 3, none⟩ = some (.string x.val)) := by
                intro X hX
                obtain ⟨b', off', _, x', e, hx', y0, y1, y2, y3⟩ := EntsR.at (show EntsR X (.slice (some ⟨b, off, none⟩) cs.length vc) (entE sq cs) from Rws.own hX) j (by rw [entE_len]; exact hjl)
                simp only [Value.slice.injEq, Option.some.injEq, Addr.mk.injEq] at e
                obtain ⟨⟨rfl, rfl, _⟩, _, _⟩ := e
                rw [hx] at hx'
                cases hx'
                exact ⟨y0, y1, y2, y3⟩
              have HHD : Hid (DrwR wr (.slice ha hs.length hc) hs) := HH.out.up (up_trans U2.out hT.below)
              have HT := hid hT
              have HOV : Hid (OwnR wr w2.heap.size 50 4 (.slice (some ⟨b, off, none⟩) cs.length vc) ((entE sq cs).map enRow)) := HJ.out.2
              have hK76 : K' + 1 ≤ 768 := by omega
              have HKK := hid hK'
              clear hx hT HJ hK'
              go_upto_if 114 with fail
              go_cut [22] from 111 to 119 (fun sA wy => ∃ h : Int, sA = .int .i64 h ∧ Hid (1 ≤ h ∧ h ≤ 8) ∧ wy = wr)
              case first =>
                by_cases q : K' < hs.length
                · have q' : (K' : Int) < (hs.length : Int) := by omega
                  obtain ⟨bb, oo, _, d, e, y0, hd⟩ := HHD.out.at K' q
                  simp only [Value.slice.injEq] at e
                  obtain ⟨rfl, hz1, rfl⟩ := e
                  clear hz1
                  have HHT := hid (height_any d hd wr)
                  go_wp2_with fail
                  refine HHT.out.mono ?_
                  rintro e wy ⟨h, rfl, hI, rfl⟩
                  go_wp2_with fail
                  go_meet
                  case rel => exact ⟨_, rfl, ⟨by have := hI.out.1; omega, by have := hI.out.2.1; omega⟩, rfl⟩
                · have q' : ¬ (K' : Int) < (hs.length : Int) := by omega
                  go_wp2_with fail
                  go_meet
                  case rel => exact ⟨1, rfl, ⟨by omega, by omega⟩, rfl⟩
              case rest =>
              obtain ⟨h, rfl, HH8, hcw⟩ := hcut
              rw [hcw]
              clear hcw
              obtain ⟨W, hW⟩ : ∃ W, W = wr := ⟨_, rfl⟩
              rw [← hW] at HT HOV HHD ⊢
              clear hW
              have HE0 : Hid (errP sk x h = 0) := put_ok HT.out.good HLG.out.num HT.out.ents HVX.out (HLG.out.may x (List.mem_of_getElem? HVX.out)) HH8.out (by have := HLG.out.few; omega)
              obtain ⟨x0, x1, x2, x3⟩ := HXC.out W HOV.out
              have p0 : W.cell? ⟨B, 0, none⟩ = some (.slice b1 n1 d1) := blk_cell HT.out.box 0 _ rfl
              have p1 : W.cell? ⟨B, 1, none⟩ = some (.slice b2 m1 d2) := blk_cell HT.out.box 1 _ rfl
              have HQa : Hid (∀ X, Below W.heap.size W X → Calls Tryz.prog 11 #[.agg #[.slice b1 n1 d1, .slice b2 m1 d2], .agg #[.string x.key, .int .i64 x.seq, .int .i64 x.kind, .string x.val], .int .i64 h] X fun e w' => ∃ a n c a2 n2 c2, e = .returned (.tuple #[.agg #[.slice a n c, .slice a2 n2 c2], .int .i64 0]) ∧ w'.cell? ⟨B, 0, none⟩ = some (.slice b1 n1 d1) ∧ w'.cell? ⟨B, 1, none⟩ = some (.slice b2 m1 d2) ∧ w'.cell? ⟨b, off + j * 4, none⟩ = some (.string x.key) ∧ w'.cell? ⟨b, off + j * 4 + 1, none⟩ = some (.int .i64 x.seq) ∧ w'.cell? ⟨b, off + j * 4 + 2, none⟩ = some (.int .i64 x.kind) ∧ w'.cell? ⟨b, off + j * 4 + 3, none⟩ = some (.string x.val) ∧ Hid (∃ t es', OwnSk w' W.heap.size 124 (.slice a n c) (.slice a2 n2 c2) t es' ∧ IsPut sk x h t) ∧ Hid (Below X.heap.size X w' ∧ Below W.heap.size W w')) := by
                intro X hX
                have hp := putS_any sk es (.slice b1 n1 d1) (.slice b2 m1 d2) x h X (HT.out.sk.read.up hX)
                rw [HE0.out] at hp
                refine hp.mono ?_
                rintro e w' ⟨vN', vH', t, es', rfl, ho, hu⟩
                obtain ⟨⟨a, c, rfl⟩, ⟨a2, c2, rfl⟩⟩ := ho.out.1.read.form
                have hb := up_trans hX hu.out
                have lt : ∀ {bb : Addr} {q : Value}, W.cell? bb = some q → w'.cell? bb = some q := fun hq => (hb.cell (World.block_lt_of_cell? W _ hq)).trans hq
                exact ⟨a, _, c, a2, _, c2, rfl, lt p0, lt p1, lt x0, lt x1, lt x2, lt x3, ⟨t, es', ho.out.1.mono hX.size, ho.out.2⟩, hu.out, hb⟩
              have UAa : Hid (Below W.heap.size W W.drew) := up_dr (Below.refl _ _)
              have UBa : Hid (Below W.heap.size W (W.alloc (.cells #[.slice none 0 0, .slice none 0 0] 39)).drew) := up_dr (up_al (Below.refl _ _) _)
              have TBa : Hid ((W.alloc (.cells #[.slice none 0 0, .slice none 0 0] 39)).drew.heap[W.heap.size]? = some (.cells #[.slice none 0 0, .slice none 0 0] 39)) := blk_up (blk_new W _) (up_dr (Below.refl _ _))
              have HRa : Hid (Calls Tryz.prog 11 #[.agg #[.slice b1 n1 d1, .slice b2 m1 d2], .agg #[.string x.key, .int .i64 x.seq, .int .i64 x.kind, .string x.val], .int .i64 h] (W.alloc (.cells #[.slice none 0 0, .slice none 0 0] 39)).drew fun e w' => ∃ a n c a2 n2 c2, e = .returned (.tuple #[.agg #[.slice a n c, .slice a2 n2 c2], .int .i64 0]) ∧ w'.cell? ⟨B, 0, none⟩ = some (.slice b1 n1 d1) ∧ w'.cell? ⟨B, 1, none⟩ = some (.slice b2 m1 d2) ∧ w'.cell? ⟨b, off + j * 4, none⟩ = some (.string x.key) ∧ w'.cell? ⟨b, off + j * 4 + 1, none⟩ = some (.int .i64 x.seq) ∧ w'.cell? ⟨b, off + j * 4 + 2, none⟩ = some (.int .i64 x.kind) ∧ w'.cell? ⟨b, off + j * 4 + 3, none⟩ = some (.string x.val) ∧ w'.cell? ⟨W.heap.size, 0, none⟩ = some (.slice none 0 0) ∧ w'.cell? ⟨W.heap.size, 1, none⟩ = some (.slice none 0 0) ∧ w'.frozen? ⟨W.heap.size, 0, none⟩ = false ∧ w'.frozen? ⟨W.heap.size, 1, none⟩ = false ∧ Hid ((∃ t es', OwnSk w' W.heap.size 124 (.slice a n c) (.slice a2 n2 c2) t es' ∧ IsPut sk x h t) ∧ Below W.heap.size W w' ∧ w'.heap[W.heap.size]? = some (.cells #[.slice none 0 0, .slice none 0 0] 39))) := by
                refine (HQa.out _ UBa.out).mono ?_
                rintro e w' ⟨a, n, c, a2, n2, c2, rfl, k0, k1, k2, k3, k4, k5, ho, hu⟩
                have kb := blk_up TBa.out hu.out.1
                exact ⟨a, n, c, a2, n2, c2, rfl, k0, k1, k2, k3, k4, k5, blk_cell kb 0 _ rfl, blk_cell kb 1 _ rfl, blk_frozen kb 0, blk_frozen kb 1, ho.out, hu.out.2, kb⟩
              have HSa : Hid (Calls Tryz.prog 11 #[.agg #[.slice b1 n1 d1, .slice b2 m1 d2], .agg #[.string x.key, .int .i64 x.seq, .int .i64 x.kind, .string x.val], .int .i64 h] W.drew fun e w' => ∃ a n c a2 n2 c2, e = .returned (.tuple #[.agg #[.slice a n c, .slice a2 n2 c2], .int .i64 0]) ∧ w'.cell? ⟨B, 0, none⟩ = some (.slice b1 n1 d1) ∧ w'.cell? ⟨B, 1, none⟩ = some (.slice b2 m1 d2) ∧ w'.cell? ⟨b, off + j * 4, none⟩ = some (.string x.key) ∧ w'.cell? ⟨b, off + j * 4 + 1, none⟩ = some (.int .i64 x.seq) ∧ w'.cell? ⟨b, off + j * 4 + 2, none⟩ = some (.int .i64 x.kind) ∧ w'.cell? ⟨b, off + j * 4 + 3, none⟩ = some (.string x.val) ∧ Hid ((∃ t es', OwnSk w' W.heap.size 124 (.slice a n c) (.slice a2 n2 c2) t es' ∧ IsPut sk x h t) ∧ Below W.heap.size W w')) := by
                refine (HQa.out _ UAa.out).mono ?_
                rintro e w' ⟨a, n, c, a2, n2, c2, rfl, k0, k1, k2, k3, k4, k5, ho, hu⟩
                exact ⟨a, n, c, a2, n2, c2, rfl, k0, k1, k2, k3, k4, k5, ho.out, hu.out.2⟩
              have zza : ¬ W.heap.size = B := by have := World.block_lt_of_cell? W _ p0; simp only at this; omega
              have zya : ¬ B = W.heap.size := fun q => zza q.symm
              have zba : ¬ W.heap.size = b := by have := World.block_lt_of_cell? W _ x0; simp only at this; omega
              have zca : ¬ b = W.heap.size := fun q => zba q.symm
              have dd0 := fun o => ((up_dr (up_al (Below.refl W.heap.size W) o)).cell (World.block_lt_of_cell? _ _ p0)).trans p0
              have dd1 := fun o => ((up_dr (up_al (Below.refl W.heap.size W) o)).cell (World.block_lt_of_cell? _ _ p1)).trans p1
              have dd2 := fun o => ((up_dr (up_al (Below.refl W.heap.size W) o)).cell (World.block_lt_of_cell? _ _ x0)).trans x0
              have dd3 := fun o => ((up_dr (up_al (Below.refl W.heap.size W) o)).cell (World.block_lt_of_cell? _ _ x1)).trans x1
              have dd4 := fun o => ((up_dr (up_al (Below.refl W.heap.size W) o)).cell (World.block_lt_of_cell? _ _ x2)).trans x2
              have dd5 := fun o => ((up_dr (up_al (Below.refl W.heap.size W) o)).cell (World.block_lt_of_cell? _ _ x3)).trans x3
              clear HQa UAa UBa TBa
              go_upto_region 31 with fail
              go_cut [23, 24] from 120 to 129 (fun sA sB wy => ∃ (T : Nat) (t : Sk) (es' : List (En × Value)) (a : Option Addr) (n c : Nat) (a2 : Option Addr) (n2 c2 : Nat), sA = .pointer (some ⟨T, 0, none⟩) ∧ sB = .int .i64 0 ∧ Hid (wy.heap[T]? = some (.cells #[.slice a n c, .slice a2 n2 c2] 39) ∧ OwnSk wy W.heap.size 124 (.slice a n c) (.slice a2 n2 c2) t es' ∧ IsPut sk x h t ∧ Below W.heap.size W wy))
              case first =>
                go_region_held3 (fun w' => w'.cell? ⟨B, 0, none⟩ = some (.slice b1 n1 d1) ∧ w'.cell? ⟨B, 1, none⟩ = some (.slice b2 m1 d2) ∧ w'.cell? ⟨b, off + j * 4, none⟩ = some (.string x.key) ∧ w'.cell? ⟨b, off + j * 4 + 1, none⟩ = some (.int .i64 x.seq) ∧ w'.cell? ⟨b, off + j * 4 + 2, none⟩ = some (.int .i64 x.kind) ∧ w'.cell? ⟨b, off + j * 4 + 3, none⟩ = some (.string x.val)) (first | with_reducible exact ⟨y0, y1, y2, y3, y4, y5⟩ | with_reducible exact ⟨p0, p1, x0, x1, x2, x3⟩ | with_reducible exact ⟨dd0 _, dd1 _, dd2 _, dd3 _, dd4 _, dd5 _⟩ | with_reducible exact ⟨cell_al _ y0, cell_al _ y1, cell_al _ y2, cell_al _ y3, cell_al _ y4, cell_al _ y5⟩ | (simp [go_sem, y0, y1, y2, y3, y4, y5, zza, zya, zba, zca]; done) | (simp [go_sem, p0, p1, x0, x1, x2, x3]; done)) (first
                  | (go_at_call 11; with_reducible refine HSa.out.mono ?_; rintro e w2' ⟨a, n, c, a2, n2, c2, rfl, y0, y1, y2, y3, y4, y5, hs'⟩)
                  | (go_at_call 11; with_reducible refine HRa.out.mono ?_; rintro e w2' ⟨a, n, c, a2, n2, c2, rfl, y0, y1, y2, y3, y4, y5, t0, t1, f0, f1, hs'⟩))
                · obtain ⟨⟨t, es', ho, hp⟩, hb⟩ := hs'.out
                  have HF : Hid (OwnSk w2' W.heap.size 124 (.slice a n c) (.slice a2 n2 c2) t es' ∧ IsPut sk x h t ∧ Below W.heap.size W w2') := ⟨ho, hp, hb⟩
                  clear ho hp hb hs' y0 y1 y2 y3 y4 y5
                  go_wp2_with fail
                  go_meet
                  case rel =>
                    refine ⟨_, t, es', a, n, c, a2, n2, c2, rfl, rfl, ?_⟩
                    unfold Hid
                    exact ⟨blk_new _ _, HF.out.1.up (up_alloc _ _), HF.out.2.1, up_al HF.out.2.2 _⟩
                · obtain ⟨⟨t, es', ho, hp⟩, hb, hTT⟩ := hs'.out
                  have HF : Hid (OwnSk w2' W.heap.size 124 (.slice a n c) (.slice a2 n2 c2) t es' ∧ IsPut sk x h t ∧ Below W.heap.size W w2' ∧ w2'.heap[W.heap.size]? = some (.cells #[.slice none 0 0, .slice none 0 0] 39)) := ⟨ho, hp, hb, hTT⟩
                  clear ho hp hb hTT hs' y0 y1 y2 y3 y4 y5 t0 t1 f0 f1
                  go_wp2_with fail
                  go_meet
                  case rel =>
                    refine ⟨_, t, es', a, n, c, a2, n2, c2, rfl, rfl, ?_⟩
                    have g2 := set2_grown w2' W.heap.size (.slice a n c) (.slice a2 n2 c2)
                    unfold Hid
                    exact ⟨set2_blk HF.out.2.2.2 _ _, HF.out.1.block HF.out.2.2.2 (by decide) (by decide) g2, HF.out.2.1, HF.out.2.2.1.grown g2 HF.out.2.2.1.size (fun k hk => by injection hk with hk; omega)⟩
              case rest =>
              clear HRa HSa dd0 dd1 dd2 dd3 dd4 dd5 zza zya zba zca p0 p1 x0 x1 x2 x3
              obtain ⟨T2, t, es', f1, fn1, g1, f2, fn2, g2, rfl, rfl, HU1⟩ := hcut
              have q0 : wc.cell? ⟨T2, 0, none⟩ = some (.slice f1 fn1 g1) := blk_cell HU1.out.1 0 _ rfl
              have q1 : wc.cell? ⟨T2, 1, none⟩ = some (.slice f2 fn2 g2) := blk_cell HU1.out.1 1 _ rfl
              have HBX := HT.out.up HU1.out.2.2.2
              have t0 : wc.cell? ⟨B, 0, none⟩ = some (.slice b1 n1 d1) := blk_cell HBX.box 0 _ rfl
              have t1 : wc.cell? ⟨B, 1, none⟩ = some (.slice b2 m1 d2) := blk_cell HBX.box 1 _ rfl
              have j0 := fun k => blk_frozen HBX.box k
              obtain ⟨wS, hwS⟩ : ∃ wS, wS = (wc.setCell ⟨B, 0, none⟩ (.slice f1 fn1 g1)).setCell ⟨B, 1, none⟩ (.slice f2 fn2 g2) := ⟨_, rfl⟩
              have HWS : Hid ((wc.setCell ⟨B, 0, none⟩ (.slice f1 fn1 g1)).setCell ⟨B, 1, none⟩ (.slice f2 fn2 g2) = wS) := hwS.symm
              have HTS : Hid (TopI w2 B (allE gs) (K' + 1) K' (.slice ra' K' rc') (.slice f1 fn1 g1) (.slice f2 fn2 g2) t es' bl wS) := by
                unfold Hid
                rw [hwS]
                exact HT.out.put HU1.out.2.2.2 HU1.out.2.1 HU1.out.2.2.1 HE0.out HVX.out
              have HOS : Hid (OwnR wS w2.heap.size 50 4 (.slice (some ⟨b, off, none⟩) cs.length vc) ((entE sq cs).map enRow)) := by
                unfold Hid
                rw [hwS]
                exact HT.out.put_keep HU1.out.2.2.2 HOV.out
              obtain ⟨x0, x1, x2, x3⟩ := HXC.out wS HOS.out
              rw [← HWS.out] at x0 x1 x2 x3
              clear hwS HBX
              go_upto_region 36 with fail
              rw [HWS.out]
              rw [HWS.out] at x0 x1 x2 x3
              clear HWS q0 q1 t0 t1 j0
              have HLB : Hid ((bl.map brow).length = K') := by unfold Hid; rw [List.length_map]; exact HTS.out.len
              have HB1 : Hid ((((bl.map brow).length + [brow wS.heap.size].length) + ((bl.map brow).length + [brow wS.heap.size].length) / 4 + 192) * 24 ≤ 281474976710656) := by
                unfold Hid
                rw [HLB.out]
                simp only [List.length_singleton]
                omega
              have HB2 : Hid ((bl.map brow).length + [brow wS.heap.size].length ≤ maxLen) := by
                unfold Hid maxLen
                rw [HLB.out]
                simp only [List.length_singleton]
                omega
              have HRO : Hid (OwnR ((wS.alloc (.cells #[.string x.key, .int .i64 x.seq, .int .i64 x.kind, .string x.val] 50)).alloc (.cells #[.slice (some ⟨wS.heap.size, 0, none⟩) 1 1] 42)) w2.heap.size 42 1 (.slice ra' K' rc') (bl.map brow)) := (HTS.out.runs.up (up_alloc _ _)).up (up_alloc _ _)
              have HRL : Hid (Rws 1 ((wS.alloc (.cells #[.string x.key, .int .i64 x.seq, .int .i64 x.kind, .string x.val] 50)).alloc (.cells #[.slice (some ⟨wS.heap.size, 0, none⟩) 1 1] 42)) (.slice (some ⟨wS.heap.size + 1, 0, none⟩) 1 1) [brow wS.heap.size]) := by
                have := Rws.made (sz := 1) (wS.alloc (.cells #[.string x.key, .int .i64 x.seq, .int .i64 x.kind, .string x.val] 50)) 42 [brow wS.heap.size] (by simp [brow]) (by simp [maxLen])
                rw [show (wS.alloc (.cells #[.string x.key, .int .i64 x.seq, .int .i64 x.kind, .string x.val] 50)).heap.size = wS.heap.size + 1 by simp] at this
                exact this
              have HO1 : Hid (∀ q ∈ [brow wS.heap.size], ∀ u ∈ q, u.oneCell' = true) := by
                intro q hq u hu
                simp only [List.mem_singleton] at hq
                subst hq
                simp only [brow, List.mem_singleton] at hu
                subst hu
                rfl
              have HSZ : Hid (w2.heap.size ≤ ((wS.alloc (.cells #[.string x.key, .int .i64 x.seq, .int .i64 x.kind, .string x.val] 50)).alloc (.cells #[.slice (some ⟨wS.heap.size, 0, none⟩) 1 1] 42)).heap.size) := Nat.le_trans HTS.out.below.size (up_al (up_alloc wS _) _).size
              have HFA : Hid (∀ w' v', OwnR w' w2.heap.size 42 1 v' (bl.map brow ++ [brow wS.heap.size]) → ((wS.alloc (.cells #[.string x.key, .int .i64 x.seq, .int .i64 x.kind, .string x.val] 50)).alloc (.cells #[.slice (some ⟨wS.heap.size, 0, none⟩) 1 1] 42)).grownBy w' (Value.slice ra' K' rc').ownBlock → ∃ a' c', v' = .slice a' (K' + 1) c' ∧ TopS w2 B (allE gs) (K' + 1) a' c' w' ∧ OwnR w' w2.heap.size 50 4 (.slice (some ⟨b, off, none⟩) cs.length vc) ((entE sq cs).map enRow)) := by
                intro w' v' ho hg
                obtain ⟨a9, c9, e9, _⟩ := Rws.len (Rws.own ho)
                rw [List.length_append, HLB.out, List.length_singleton] at e9
                subst e9
                exact ⟨a9, c9, rfl, ⟨f1, f2, fn1, g1, fn2, g2, t, es', _, HTS.out.app HVX.out ho hg⟩, HTS.out.app_keep HOS.out hg⟩
              generalize bl.map brow = BM at *
              clear HTS HOS HLB HU1 HT HOV
              go_wp2_with (at_builtin; refine wpList_append_rows _ rfl _ _ 41 42 _ 1 24 rfl Tryz.underlying41 Tryz.info42 rfl (by decide) w2.heap.size (.slice ra' K' rc') BM rfl HRO.out (.slice (some ⟨wS.heap.size + 1, 0, none⟩) 1 1) [brow wS.heap.size] rfl HRL.out HO1.out HB1.out HB2.out HSZ.out ?_)
              intro v9 w9 O9 G9
              obtain ⟨a9, c9, rfl, hT9, hO9⟩ := HFA.out w9 v9 O9 G9
              have H9 : Hid (TopS w2 B (allE gs) (K' + 1) a9 c9 w9 ∧ OwnR w9 w2.heap.size 50 4 (.slice (some ⟨b, off, none⟩) cs.length vc) ((entE sq cs).map enRow)) := ⟨hT9, hO9⟩
              clear O9 G9 hT9 hO9 HFA HRO HRL HO1 HSZ x0 x1 x2 x3
              go_wp2_with fail
              exact ⟨⟨j + 1, K' + 1, a9, c9, by omega, by have := HKK.out; omega, rfl, by go_num, by go_num, H9⟩, by simp [intOf]; omega⟩
            · have hjl' : ¬ (j : Int) < (cs.length : Int) := by omega
              have HF : Hid (K' = (allE (gs.take (i + 1))).length ∧ TopS w2 B (allE gs) K' ra' rc' wr) := by
                refine ⟨?_, HJ.out.1⟩
                rw [all_take HGI.out, List.length_append, entE_len]
                have := HK0.out
                simp only
                omega
              clear hK' HJ
              go_wp2_with fail
              exact ⟨⟨i + 1, K', ra', rc', by omega, rfl, rfl, by go_num, HF⟩, by simp [intOf]; omega⟩
        · have hlt' : ¬ (i : Int) < (ys.length : Int) := by omega
          obtain ⟨b1, b2, n1, d1, m1, d2, sk, es, bl, hT⟩ := HK.out.2
          have hKV : K = (allE gs).length := by rw [HK.out.1, List.take_of_length_le (by have := HYL.out; omega)]
          have HSA : Hid (SrtOf (allE gs) sk.all) := by
            have := all_sorted hT.good
            rw [hT.ents, List.take_of_length_le (by omega)] at this
            exact this
          have HAV : allV sk = sk.all := by unfold allV; rw [if_pos ((checkS_iff sk).2 hT.good)]
          have HAL := hid (all_any sk es _ _ wr hT.sk.read)
          rw [errC_good hT.good, HAV] at HAL
          have HSK : Hid (Good sk ∧ SkE wr (.slice b1 n1 d1) (.slice b2 m1 d2) sk es ∧ wr.heap[B]? = some (.cells #[.slice b1 n1 d1, .slice b2 m1 d2] 39)) := ⟨hT.good, hT.sk.read, hT.box⟩
          have HV4 : (allE gs).length ≤ 768 := by have := HLG.out.few; omega
          obtain ⟨A, hA⟩ : ∃ A, A = sk.all := ⟨_, rfl⟩
          rw [← hA] at HAL HSA
          have HAE := hid hA
          have HMG : Hid (∀ w', Below wr.heap.size wr w' → Calls Tryz.prog 13 #[.slice ra K rc] w' fun e w'' => ∃ a n c, e = .returned (.tuple #[.slice a n c, .bool true]) ∧ Hid (EntsR w'' (.slice a n c) A) ∧ Hid (Below w'.heap.size w' w'')) := by
            intro w' hw'
            refine (merged_any (allE gs) ra K rc w' HLG.out.num HLG.out.may (by omega) ((hT.all hKV).up hw')).mono ?_
            rintro e w'' ⟨a, n, c, rfl, ⟨out, ho, hs⟩, hb⟩
            rw [hs.one HSA.out] at ho
            exact ⟨a, n, c, rfl, ho, hb⟩
          have hn1 : next - 1 = (K : Int) := by have := HLG.out.len; omega
          have hwK : IntKind.i64.wrap (K : Int) = (K : Int) := by rw [IntKind.wrap_i64]; omega
          have p0 : wr.cell? ⟨B, 0, none⟩ = some (.slice b1 n1 d1) := blk_cell hT.box 0 _ rfl
          have p1 : wr.cell? ⟨B, 1, none⟩ = some (.slice b2 m1 d2) := blk_cell hT.box 1 _ rfl
          have URW : Hid (Below w.heap.size w wr) := up_trans U2.out hT.below
          have HORD : Hid (ordL A = 0) := HSA.out.ord HLG.out.may
          have hAL : A.length ≤ 768 := by rw [HSA.out.2.length_eq]; exact HV4
          clear hT HK HAV hA hKV HV4
          go_wp2_with fail
          refine HAL.out.mono ?_
          rintro e w5 ⟨a5, n5, c5, rfl, O5, u5⟩
          have E5 : Hid (EntsR w5 (.slice a5 n5 c5) A) := Rws.own O5.out.2
          have hn5 : n5 = A.length := O5.out.1
          have HM5 := hid (HMG.out w5 u5.out)
          clear O5 p0 p1 HAL HMG
          subst hn5
          go_wp2_with fail
          refine HM5.out.mono ?_
          rintro e w6 ⟨a6, n6, c6, rfl, E6, u6⟩
          have F5 : Hid (EntsR w6 (.slice a5 A.length c5) A) := E5.out.up u6.out
          have HSM := hid (sameEnts_self A (.slice a5 A.length c5) (.slice a6 n6 c6) w6 F5.out E6.out)
          clear HM5
          go_wp2_with fail
          refine HSM.out.mono ?_
          rintro e w7 ⟨rfl, d, hw7⟩
          have U67 : Hid (Below w6.heap.size w6 w7) := by rw [hw7]; exact up_drewN _ _
          have U7 : Hid (Below wr.heap.size wr w7) := up_trans u5.out (up_trans u6.out U67.out)
          have F7 : Hid (EntsR w7 (.slice a5 A.length c5) A) := F5.out.up U67.out
          have UW7 : Hid (Below w.heap.size w w7) := up_trans URW.out U7.out
          clear hw7 U67 HSM E6 u6 u5 E5 F5
          by_cases hA0 : A.length = 0
          · have q1 : ((A.length : Int) == 0) = true := by simp [hA0]
            have q2 : (A.length : Int) = 0 := by omega
            clear hA0
            go_wp2_with fail
            go_ret
            exact ⟨rfl, UW7.out⟩
          · have q1 : ((A.length : Int) == 0) = false := beq_eq_false_iff_ne.2 (by omega)
            have q2 : ((A.length : Int) = 0) = False := eq_false (by omega)
            have hCT : chkT A = 0 := by
              unfold chkT
              rw [if_neg (by omega)]
              exact HORD.out
            have HCT := hid hCT
            have HCP : Hid (chkP A = 0) := (chkP_iff A).2 HORD.out
            have HB7 := hid (build_ok hCT _ w7 F7.out)
            clear hCT
            go_wp2_with fail
            refine HB7.out.mono ?_
            rintro e w8 ⟨ta, tn, tc, rfl, O8, u8⟩
            have HO8 := hid (open_ok HCT.out ta tn tc w8 O8.out.1 O8.out.2)
            clear HB7
            go_wp2_with fail
            refine HO8.out.mono ?_
            rintro e w9 ⟨ea, en, ec, fa, fn, fc, rfl, E9, F9, u9⟩
            obtain ⟨FK, hFK⟩ : ∃ FK, FK = (filT A).1 := ⟨_, rfl⟩
            rw [← hFK]
            have HFK := hid hFK
            clear hFK HO8
            obtain ⟨wt, hwt⟩ : ∃ wt, wt = w9.alloc (.cells #[.slice ea en ec, .int .i64 FK, .slice fa fn fc] 59) := ⟨_, rfl⟩
            obtain ⟨TB, hTB⟩ : ∃ TB, TB = w9.heap.size := ⟨_, rfl⟩
            have UT : Hid (Below w9.heap.size w9 wt) := by rw [hwt]; exact up_alloc _ _
            have DT : Hid (wt.heap[TB]? = some (.cells #[.slice ea en ec, .int .i64 FK, .slice fa fn fc] 59)) := by rw [hwt, hTB]; exact blk_new _ _
            have U7t : Hid (Below w7.heap.size w7 wt) := up_trans u8.out (up_trans u9.out UT.out)
            have HS1 := hid (seen_good A seq a5 A.length c5 wt (F7.out.up U7t.out) (by omega))
            rw [HCP.out] at HS1
            go_upto_region 45 with fail
            rw [← hwt, ← hTB]
            clear hwt hTB
            go_wp2_with fail
            refine HS1.out.mono ?_
            rintro e wu ⟨xa, xn, xc, rfl, PX, uu⟩
            have t0 : wu.cell? ⟨TB, 0, none⟩ = some (.slice ea en ec) := blk_cell (blk_up DT.out uu.out) 0 _ rfl
            have HS2 := hid (seen_good A seq ea en ec wu (E9.out.up (up_trans UT.out uu.out)) (by omega))
            rw [HCP.out] at HS2
            clear HS1
            go_wp2_with fail
            refine HS2.out.mono ?_
            rintro e wv ⟨ya', yn, yc', rfl, PY, uv⟩
            have HXN : Hid (xn = (seenM A seq).length) := by
              obtain ⟨a9, c9, e9, _⟩ := PX.out.len
              simp only [Value.slice.injEq] at e9
              exact e9.2.1
            have HSP := hid (samePairs_self (seenM A seq) (.slice xa xn xc) (.slice ya' yn yc') wv (PX.out.up uv.out) PY.out)
            clear HS2 t0
            go_wp2_with fail
            refine HSP.out.mono ?_
            rintro e wB ⟨rfl, d9, hwB⟩
            have UvB : Hid (Below wv.heap.size wv wB) := by rw [hwB]; exact up_drewN _ _
            clear hwB HSP PY
            have UtB : Hid (Below wt.heap.size wt wB) := up_trans uu.out (up_trans uv.out UvB.out)
            have U7B : Hid (Below w7.heap.size w7 wB) := up_trans U7t.out UtB.out
            have HPX : Hid (PairsR wB (.slice xa xn xc) (seenM A seq)) := PX.out.up (up_trans uv.out UvB.out)
            have HTB : Hid (wB.heap[TB]? = some (.cells #[.slice ea en ec, .int .i64 FK, .slice fa fn fc] 59)) := blk_up DT.out UtB.out
            have HFB : Hid (fn = (filT A).2.length ∧ Octs wB (.slice fa fn fc) (filT A).2) := ⟨F9.out.1, F9.out.2.up (up_trans UT.out UtB.out)⟩
            have HOB : Hid (tn = (tabO A).length ∧ Octs wB (.slice ta tn tc) (tabO A)) := ⟨O8.out.1, O8.out.2.up (up_trans u9.out (up_trans UT.out UtB.out))⟩
            have HKB : Hid (Good sk ∧ SkE wB (.slice b1 n1 d1) (.slice b2 m1 d2) sk es ∧ wB.heap[B]? = some (.cells #[.slice b1 n1 d1, .slice b2 m1 d2] 39)) := ⟨HSK.out.1, HSK.out.2.1.up (up_trans U7.out U7B.out), blk_up HSK.out.2.2 (up_trans U7.out U7B.out)⟩
            have UWB : Hid (Below w.heap.size w wB) := up_trans UW7.out U7B.out
            have hxl : xn ≤ 768 := by
              rw [HXN.out]
              have := seen_len A seq
              omega
            clear PX uv UvB uu DT UT E9 F9 u9 u8 O8 F7 U7t UtB U7B HSK U7 UW7 HCP
            go_wp2_with fail
            go_loopw [37] (fun vi wr => ∃ i : Nat, i ≤ xn ∧ vi = .int .i64 i ∧ Hid (Below wB.heap.size wB wr)) (fun vi _ => xn - (intOf vi).toNat)
            case atStart => exact ⟨0, Nat.zero_le _, rfl, Below.refl _ _⟩
            case round =>
              obtain ⟨i, hi', rfl, hU⟩ := hrel
              by_cases hlx : i < xn
              · have hlx' : (i : Int) < (xn : Int) := by omega
                obtain ⟨y, hym, hyf, hys⟩ := seen_at HORD.out (s := seq) (i := i) (by rw [← HXN.out]; exact hlx)
                obtain ⟨pb, po, pc, pp, e, hpp, _, _⟩ := HPX.out.at i (by rw [← HXN.out]; exact hlx)
                rw [hys] at hpp
                cases hpp
                simp only [Value.slice.injEq] at e
                obtain ⟨rfl, hz1, rfl⟩ := e
                have HPC : Hid (∀ X, Below wB.heap.size wB X → X.cell? ⟨pb, po + i * 2, none⟩ = some (.string y.key) ∧ X.cell? ⟨pb, po + i * 2 + 1, none⟩ = some (.string y.val)) := by
                  intro X hX
                  obtain ⟨b', off', _, pp', e', hpp', y0, y1⟩ := (HPX.out.up hX).at i (by rw [← HXN.out]; exact hlx)
                  rw [hys] at hpp'
                  cases hpp'
                  simp only [Value.slice.injEq, Option.some.injEq, Addr.mk.injEq] at e'
                  obtain ⟨⟨rfl, rfl, _⟩, _, _⟩ := e'
                  exact ⟨y0, y1⟩
                have HYF : Hid (firstF sk.all y.key seq = some y) := by unfold Hid; rw [← HAE.out]; exact hyf
                have HYA := hid hyf
                have HYM := hid hym
                clear hym hyf hys hz1
                obtain ⟨W, hW⟩ : ∃ W, W = wr := ⟨_, rfl⟩
                rw [← hW] at hU ⊢
                clear hW
                have UB := hU.out
                obtain ⟨x0, x1⟩ := HPC.out W UB
                have p0 : W.cell? ⟨B, 0, none⟩ = some (.slice b1 n1 d1) := blk_cell (blk_up HKB.out.2.2 UB) 0 _ rfl
                have p1 : W.cell? ⟨B, 1, none⟩ = some (.slice b2 m1 d2) := blk_cell (blk_up HKB.out.2.2 UB) 1 _ rfl
                have HQ : Hid (∀ X, Below W.heap.size W X → Calls Tryz.prog 19 #[.agg #[.slice b1 n1 d1, .slice b2 m1 d2], .string y.key, .int .i64 seq] X fun e w' => e = .returned (.tuple #[.agg #[.string y.key, .int .i64 y.seq, .int .i64 y.kind, .string y.val], .bool true, .int .i64 0]) ∧ w'.cell? ⟨B, 0, none⟩ = some (.slice b1 n1 d1) ∧ w'.cell? ⟨B, 1, none⟩ = some (.slice b2 m1 d2) ∧ w'.cell? ⟨pb, po + i * 2, none⟩ = some (.string y.key) ∧ Hid (Below X.heap.size X w' ∧ Below W.heap.size W w')) := by
                  intro X hX
                  refine (sget_ok HKB.out.1 HYF.out _ _ X (HKB.out.2.1.up (up_trans UB hX))).mono ?_
                  rintro e w' ⟨rfl, hu⟩
                  have hb := up_trans hX hu.out
                  have lt : ∀ {bb : Addr} {q : Value}, W.cell? bb = some q → w'.cell? bb = some q := fun hq => (hb.cell (World.block_lt_of_cell? W _ hq)).trans hq
                  exact ⟨rfl, lt p0, lt p1, lt x0, hu.out, hb⟩
                have UA0 : Hid (Below W.heap.size W W.drew) := up_dr (Below.refl _ _)
                have UB0 : Hid (Below W.heap.size W (W.alloc (.cells #[.string ⟨#[]⟩, .int .i64 0, .int .i64 0, .string ⟨#[]⟩] 50)).drew) := up_dr (up_al (Below.refl _ _) _)
                have TB0 : Hid ((W.alloc (.cells #[.string ⟨#[]⟩, .int .i64 0, .int .i64 0, .string ⟨#[]⟩] 50)).drew.heap[W.heap.size]? = some (.cells #[.string ⟨#[]⟩, .int .i64 0, .int .i64 0, .string ⟨#[]⟩] 50)) := blk_up (blk_new W _) (up_dr (Below.refl _ _))
                have HRq : Hid (Calls Tryz.prog 19 #[.agg #[.slice b1 n1 d1, .slice b2 m1 d2], .string y.key, .int .i64 seq] (W.alloc (.cells #[.string ⟨#[]⟩, .int .i64 0, .int .i64 0, .string ⟨#[]⟩] 50)).drew fun e w' => e = .returned (.tuple #[.agg #[.string y.key, .int .i64 y.seq, .int .i64 y.kind, .string y.val], .bool true, .int .i64 0]) ∧ w'.cell? ⟨B, 0, none⟩ = some (.slice b1 n1 d1) ∧ w'.cell? ⟨B, 1, none⟩ = some (.slice b2 m1 d2) ∧ w'.cell? ⟨pb, po + i * 2, none⟩ = some (.string y.key) ∧ w'.cell? ⟨W.heap.size, 0, none⟩ = some (.string ⟨#[]⟩) ∧ w'.cell? ⟨W.heap.size, 1, none⟩ = some (.int .i64 0) ∧ w'.cell? ⟨W.heap.size, 2, none⟩ = some (.int .i64 0) ∧ w'.cell? ⟨W.heap.size, 3, none⟩ = some (.string ⟨#[]⟩) ∧ w'.frozen? ⟨W.heap.size, 0, none⟩ = false ∧ w'.frozen? ⟨W.heap.size, 1, none⟩ = false ∧ w'.frozen? ⟨W.heap.size, 2, none⟩ = false ∧ w'.frozen? ⟨W.heap.size, 3, none⟩ = false ∧ Hid (Below W.heap.size W w' ∧ w'.heap[W.heap.size]? = some (.cells #[.string ⟨#[]⟩, .int .i64 0, .int .i64 0, .string ⟨#[]⟩] 50))) := by
                  refine (HQ.out _ UB0.out).mono ?_
                  rintro e w' ⟨rfl, k0, k1, k2, hu⟩
                  have kb := blk_up TB0.out hu.out.1
                  exact ⟨rfl, k0, k1, k2, blk_cell kb 0 _ rfl, blk_cell kb 1 _ rfl, blk_cell kb 2 _ rfl, blk_cell kb 3 _ rfl, blk_frozen kb 0, blk_frozen kb 1, blk_frozen kb 2, blk_frozen kb 3, hu.out.2, kb⟩
                have HSq : Hid (Calls Tryz.prog 19 #[.agg #[.slice b1 n1 d1, .slice b2 m1 d2], .string y.key, .int .i64 seq] W.drew fun e w' => e = .returned (.tuple #[.agg #[.string y.key, .int .i64 y.seq, .int .i64 y.kind, .string y.val], .bool true, .int .i64 0]) ∧ w'.cell? ⟨B, 0, none⟩ = some (.slice b1 n1 d1) ∧ w'.cell? ⟨B, 1, none⟩ = some (.slice b2 m1 d2) ∧ w'.cell? ⟨pb, po + i * 2, none⟩ = some (.string y.key) ∧ Hid (Below W.heap.size W w')) := by
                  refine (HQ.out _ UA0.out).mono ?_
                  rintro e w' ⟨rfl, k0, k1, k2, hu⟩
                  exact ⟨rfl, k0, k1, k2, hu.out.2⟩
                have zz : ¬ W.heap.size = B := by have := World.block_lt_of_cell? W _ p0; simp only at this; omega
                have zy : ¬ B = W.heap.size := fun q => zz q.symm
                have zb : ¬ W.heap.size = pb := by have := World.block_lt_of_cell? W _ x0; simp only at this; omega
                have zc : ¬ pb = W.heap.size := fun q => zb q.symm
                have dd0 := fun o => ((up_dr (up_al (Below.refl W.heap.size W) o)).cell (World.block_lt_of_cell? _ _ p0)).trans p0
                have dd1 := fun o => ((up_dr (up_al (Below.refl W.heap.size W) o)).cell (World.block_lt_of_cell? _ _ p1)).trans p1
                have dd2 := fun o => ((up_dr (up_al (Below.refl W.heap.size W) o)).cell (World.block_lt_of_cell? _ _ x0)).trans x0
                clear HQ UA0 UB0 TB0 x1
                go_upto_region 52 with fail
                go_cut [38, 39, 40] from 229 to 240 (fun sA sB sC wy => ∃ (T : Nat), sA = .pointer (some ⟨T, 0, none⟩) ∧ sB = .bool true ∧ sC = .int .i64 0 ∧ Hid (wy.heap[T]? = some (.cells #[.string y.key, .int .i64 y.seq, .int .i64 y.kind, .string y.val] 50) ∧ Below W.heap.size W wy))
                case first =>
                  go_region_held3 (fun w' => w'.cell? ⟨B, 0, none⟩ = some (.slice b1 n1 d1) ∧ w'.cell? ⟨B, 1, none⟩ = some (.slice b2 m1 d2) ∧ w'.cell? ⟨pb, po + i * 2, none⟩ = some (.string y.key)) (first | with_reducible exact ⟨v0, v1, v2⟩ | with_reducible exact ⟨p0, p1, x0⟩ | with_reducible exact ⟨dd0 _, dd1 _, dd2 _⟩ | with_reducible exact ⟨cell_al _ v0, cell_al _ v1, cell_al _ v2⟩ | (simp [go_sem, v0, v1, v2, zz, zy, zb, zc]; done) | (simp [go_sem, p0, p1, x0]; done)) (first
                    | (go_at_call 19; with_reducible refine HSq.out.mono ?_; rintro e w2' ⟨rfl, v0, v1, v2, hs'⟩)
                    | (go_at_call 19; with_reducible refine HRq.out.mono ?_; rintro e w2' ⟨rfl, v0, v1, v2, t0, t1, t2, t3, f0, f1, f2, f3, hs'⟩))
                  · clear v0 v1 v2
                    go_wp2_with fail
                    go_meet
                    case rel =>
                      refine ⟨_, rfl, rfl, rfl, ?_⟩
                      unfold Hid
                      exact ⟨blk_new _ _, up_al hs'.out _⟩
                  · clear v0 v1 v2 t0 t1 t2 t3 f0 f1 f2 f3
                    go_wp2_with fail
                    go_meet
                    case rel =>
                      refine ⟨_, rfl, rfl, rfl, ?_⟩
                      have g2 := set4_grown w2' W.heap.size (.string y.key) (.int .i64 y.seq) (.int .i64 y.kind) (.string y.val)
                      unfold Hid
                      exact ⟨set4_blk hs'.out.2 _ _ _ _, hs'.out.1.grown g2 hs'.out.1.size (fun k hk => by injection hk with hk; omega)⟩
                case rest =>
                clear HRq HSq dd0 dd1 dd2 zz zy zb zc p0 p1 x0
                obtain ⟨T, rfl, rfl, rfl, HT⟩ := hcut
                have UC : Hid (Below wB.heap.size wB wc) := up_trans UB HT.out.2
                obtain ⟨x0, x1⟩ := HPC.out wc UC.out
                have HG1 := hid (tget_ok HCT.out HYA.out ta tn tc wc HOB.out.1 (HOB.out.2.up UC.out))
                clear x1
                go_wp2_with fail
                refine HG1.out.mono ?_
                rintro e wd ⟨rfl, ud⟩
                obtain ⟨wx, hwx⟩ : ∃ wx, wx = wd.alloc (.cells #[.string y.key, .int .i64 y.seq, .int .i64 y.kind, .string y.val] 50) := ⟨_, rfl⟩
                obtain ⟨TD, hTD⟩ : ∃ TD, TD = wd.heap.size := ⟨_, rfl⟩
                have UCX : Hid (Below wc.heap.size wc wx) := by rw [hwx]; exact up_al ud.out _
                have DX : Hid (wx.heap[TD]? = some (.cells #[.string y.key, .int .i64 y.seq, .int .i64 y.kind, .string y.val] 50)) := by rw [hwx, hTD]; exact blk_new _ _
                have UBX : Hid (Below wB.heap.size wB wx) := up_trans UC.out UCX.out
                have Y0 := cell_up (HPC.out wx UBX.out).1
                have Y1 := cell_up (show wx.cell? ⟨TB, 1, none⟩ = some (.int .i64 FK) from blk_cell (blk_up HTB.out UBX.out) 1 _ rfl)
                have Y2 := cell_up (show wx.cell? ⟨TB, 2, none⟩ = some (.slice fa fn fc) from blk_cell (blk_up HTB.out UBX.out) 2 _ rfl)
                have HHS : Hid (∀ p : UpW wx, Calls Tryz.prog 21 #[.agg #[.int .i64 FK, .slice fa fn fc], .string y.key] p.val fun e w' => e = .returned (.tuple #[.bool true, .int .i64 0]) ∧ Below p.val.heap.size p.val w') := by
                  intro p
                  rw [HFK.out]
                  exact has_ok HCT.out HYM.out fa fn fc p.val HFB.out.1 (HFB.out.2.up (up_trans UBX.out p.up))
                clear HG1 x0
                go_upto_region 54 with fail
                rw [← hwx, ← hTD]
                clear hwx hTD
                refine wp_region_up (by kernel_rfl) (by kernel_rfl) ?_
                repeat (quiet_step ((go_at_call 21; refine calls_up (HHS.out _))))
                refine wpQuiet_nil ?_
                intro _ hw'
                obtain ⟨p, hw''⟩ := hw'
                subst hw''
                obtain ⟨wz, hwz⟩ : ∃ wz, wz = p.val := ⟨_, rfl⟩
                have UZ : Hid (Below wx.heap.size wx wz) := by rw [hwz]; exact p.up
                rw [← hwz]
                clear hwz Y0 Y1 Y2 HHS
                have UBZ : Hid (Below wB.heap.size wB wz) := up_trans UBX.out UZ.out
                obtain ⟨s0, s1⟩ := HPC.out wz UBZ.out
                have DT := hid (blk_up HT.out.1 (up_trans UCX.out UZ.out))
                have DD := hid (blk_up DX.out UZ.out)
                have t0 : wz.cell? ⟨T, 0, none⟩ = some (.string y.key) := blk_cell DT.out 0 _ rfl
                have t1 : wz.cell? ⟨T, 1, none⟩ = some (.int .i64 y.seq) := blk_cell DT.out 1 _ rfl
                have t2 : wz.cell? ⟨T, 2, none⟩ = some (.int .i64 y.kind) := blk_cell DT.out 2 _ rfl
                have t3 : wz.cell? ⟨T, 3, none⟩ = some (.string y.val) := blk_cell DT.out 3 _ rfl
                have r0 : wz.cell? ⟨TD, 0, none⟩ = some (.string y.key) := blk_cell DD.out 0 _ rfl
                have r1 : wz.cell? ⟨TD, 1, none⟩ = some (.int .i64 y.seq) := blk_cell DD.out 1 _ rfl
                have r2 : wz.cell? ⟨TD, 2, none⟩ = some (.int .i64 y.kind) := blk_cell DD.out 2 _ rfl
                have r3 : wz.cell? ⟨TD, 3, none⟩ = some (.string y.val) := blk_cell DD.out 3 _ rfl
                clear DT DD UZ UBX UCX UC
                go_wp2_with fail
                go_quiet (fail)
                have HUZ : Hid (Below wB.heap.size wB (wz.drewN nq)) := up_trans UBZ.out (up_drewN _ _)
                go_wp2_with fail
                exact ⟨⟨i + 1, by omega, by go_num, HUZ⟩, by simp [intOf]; omega⟩
              · have hlx' : ¬ (i : Int) < (xn : Int) := by omega
                go_wp2_with fail
                go_ret
                exact ⟨rfl, up_trans UWB.out hU.out⟩
end Go.Proofs.YthiegmhplnbdlaaGreat
