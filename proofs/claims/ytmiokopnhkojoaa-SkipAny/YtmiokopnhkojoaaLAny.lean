/- SkipAny, walked. -/
import Derived.Test.YtmiokopnhkojoaaLOne
import Derived.Test.YtmiokopnhkojoaaLDraws
namespace Go.Proofs.Ytmiokopnhkojoaa
open Go.RowKit
set_option linter.unusedVariables false
set_option linter.unusedSimpArgs false

theorem any_take_succ (es : List En) (x : En) (k : Nat) (y : En) (h : es[k]? = some y) : (es.take (k + 1)).any (fun e => twin e x) = ((es.take k).any (fun e => twin e x) || twin y x) := by
  rw [List.take_add_one, h]
  simp
/-- All versions stand in order. -/
theorem all_srt {s : Sk} (g : Good s) (i : Nat) (a b : En) (ha : s.all[i]? = some a) (hb : s.all[i + 1]? = some b) : beforeE a b = true := by
  have h := g.srt
  unfold Srt at h
  rw [List.pairwise_iff_getElem] at h
  unfold Sk.all at ha hb
  rw [List.getElem?_map] at ha hb
  cases h1 : s.ord[i]? with
  | none => rw [h1] at ha; simp at ha
  | some k =>
    cases h2 : s.ord[i + 1]? with
    | none => rw [h2] at hb; simp at hb
    | some j =>
      rw [h1] at ha
      rw [h2] at hb
      simp at ha hb
      obtain ⟨l1, e1⟩ := List.getElem?_eq_some_iff.1 h1
      obtain ⟨l2, e2⟩ := List.getElem?_eq_some_iff.1 h2
      have := h i (i + 1) l1 l2 (by omega)
      rw [e1, e2, Sk.eAt, Sk.eAt, ha, hb] at this
      exact this
/-- Each version is found by its key and number. -/
theorem get_each {s : Sk} (g : Good s) (i : Nat) (y : En) (hy : s.es[i]? = some y) : getV s y.key y.seq = (y, true, 0) := by
  have hi : i < s.nodes.length := by rw [← Sk.es_len]; exact (List.getElem?_eq_some_iff.1 hy).1
  have ey : (s.at' i).1 = y := by rw [← Sk.eAt]; simp [eAt, List.getD, hy]
  unfold getV
  rw [(checkS_iff s).2 g]
  -- the first that fits is it
  have hf : firstF s.all y.key y.seq = some y := by
    unfold firstF
    have hm : i ∈ s.ord := (g.mem i).2 hi
    obtain ⟨A, B, e⟩ := List.append_of_mem hm
    unfold Sk.all
    rw [e, List.map_append, List.find?_append]
    have hA : (A.map fun k => (s.at' k).1).find? (fun e => (e.key.toList == y.key.toList) && decide (e.seq ≤ y.seq)) = none := by
      rw [List.find?_eq_none]
      intro z hz
      obtain ⟨j, hj, rfl⟩ := List.mem_map.1 hz
      have hs := g.srt
      rw [e] at hs
      have hb := srt_app hs j hj i (by simp)
      rw [Sk.eAt, Sk.eAt, ey] at hb
      simp only [beforeE, Bool.or_eq_true, Bool.and_eq_true, beq_iff_eq, decide_eq_true_eq] at hb
      simp only [Bool.and_eq_true, beq_iff_eq, decide_eq_true_eq, not_and]
      intro e1
      rcases hb with hb | ⟨_, hb⟩
      · rw [e1, bl_self] at hb; cases hb
      · omega
    rw [hA, Option.none_or, List.map_cons, ey, List.find?_cons_of_pos]
    simp
  rw [hf]
  rfl

set_option maxHeartbeats 8000000 in
set_option maxRecDepth 100000 in
theorem any_walk (l : List En) (ha : List Int) (al : Option Addr) (cl : Nat) (aa : Option Addr) (ca : Nat) (w : World) (hl : EntsR w (.slice al l.length cl) l) (hha : IntsR w (.slice aa ha.length ca) ha) :
    Calls Try.prog 5 #[.slice al l.length cl, .slice aa ha.length ca] w fun e w' => e = .returned (.bool true) ∧ Below w.heap.size w w' := by
  have HLL : Hid (EntsR w (.slice al l.length cl) l) := hl
  have HHA : Hid (IntsR w (.slice aa ha.length ca) ha) := hha
  have h63 : (l.length : Int) ≤ 9223372036854775807 := by obtain ⟨_, _, e, h4, h5⟩ := hl.len; unfold maxLen at h5; omega
  have h64 : (ha.length : Int) ≤ 9223372036854775807 := by obtain ⟨_, _, e, h4, h5⟩ := hha.len; unfold maxLen at h5; omega
  clear hl hha
  have HAL := alive_any w
  go_enter Try.func5, Try.ntmps5
  go_wp2_with fail
  refine HAL.mono ?_
  rintro e w0 ⟨rfl, U0⟩
  clear HAL
  go_wp2_with fail
  refine (new_any w0).mono ?_
  rintro e w1 ⟨a1, c1, a2, c2, rfl, O1, U1⟩
  obtain ⟨wx, hwx⟩ : ∃ wx, wx = w1.alloc (.cells #[.slice a1 0 c1, .slice a2 8 c2] 30) := ⟨_, rfl⟩
  have HWX : Hid (w1.alloc (.cells #[.slice a1 0 c1, .slice a2 8 c2] 30) = wx) := hwx.symm
  have HS : Hid (OwnSk wx w.heap.size 62 (.slice a1 0 c1) (.slice a2 8 c2) emptyS [] ∧ wx.heap[w1.heap.size]? = some (.cells #[.slice a1 0 c1, .slice a2 8 c2] 30) ∧ Below w.heap.size w wx) := by
    have u2 : Below w1.heap.size w1 wx := by rw [hwx]; exact up_alloc _ _
    exact ⟨(O1.out.mono U0.out.size).up u2, by rw [hwx]; exact blk_new w1 _, up_trans U0.out (up_trans U1.out u2)⟩
  have HSZ : Hid (w.heap.size ≤ w1.heap.size) := (up_trans U0.out U1.out).size
  clear hwx O1 U0 U1
  go_wp2_with fail
  rw [HWX.out]
  clear HWX
  generalize hT1 : w1.heap.size = T1 at *
  clear hT1
  go_loopw [7, 6] (fun q q6 wr => ∃ (i : Nat) (s1 : Sk) (es1 : List (En × Value)) (b1 b2 b3 : Option Addr) (d1 d2 d3 : Nat), i ≤ l.length ∧ i ≤ 40 ∧ q = .int .i64 (i : Int) ∧ q6 = .slice b3 s1.es.length d3 ∧ Hid (Good s1 ∧ s1.es.length ≤ i ∧ OwnSk wr w.heap.size 62 (.slice b1 s1.nodes.length d1) (.slice b2 s1.head.length d2) s1 es1 ∧ wr.heap[T1]? = some (.cells #[.slice b1 s1.nodes.length d1, .slice b2 s1.head.length d2] 30) ∧ OwnR wr w.heap.size 27 4 (.slice b3 s1.es.length d3) (s1.es.map enRow) ∧ Below w.heap.size w wr)) (fun q _ _ => l.length - (intOf q).toNat)
  case atStart => exact ⟨0, emptyS, [], a1, a2, none, c1, c2, 0, by omega, by omega, rfl, rfl, emptyS_good, by simp [emptyS, Sk.es], HS.out.1, HS.out.2.1, OwnR.nil _ _ _ _, HS.out.2.2⟩
  case round =>
    clear HS
    obtain ⟨i, s1, es1, b1, b2, b3, d1, d2, d3, hi, hi40, rfl, rfl, HO⟩ := hrel
    by_cases hgo : i < l.length ∧ i < 40
    · have hlt' : (i : Int) < (l.length : Int) := by omega
      have hlt30 : (i : Int) < 40 := by omega
      obtain ⟨b, off, cap, x, e, hx, x0, x1, x2, x3⟩ := (HLL.out.up HO.out.2.2.2.2.2).at i hgo.1
      simp only [Value.slice.injEq] at e
      obtain ⟨rfl, _, rfl⟩ := e
      clear hx
      obtain ⟨H1, hH1, r1⟩ : ∃ H1 : Int, (1 ≤ H1 ∧ H1 ≤ 8) ∧ ((¬ (i : Int) < (ha.length : Int) ∧ H1 = 1) ∨ ((i : Int) < (ha.length : Int) ∧ ∃ n bb oo, aa = some ⟨bb, oo, none⟩ ∧ wr.cell? ⟨bb, oo + i, none⟩ = some (.int .i64 n) ∧ H1 = hOf n)) := by
        by_cases q : i < ha.length
        · obtain ⟨bb, oo, cc, n, e, _, hc⟩ := (HHA.out.up HO.out.2.2.2.2.2).at i q
          simp only [Value.slice.injEq] at e
          exact ⟨hOf n, ⟨(hOf_range n).1, (hOf_range n).2.1⟩, .inr ⟨by omega, n, bb, oo, e.1, hc, rfl⟩⟩
        · exact ⟨1, by omega, .inl ⟨by omega, rfl⟩⟩
      have HR1 : Hid ((¬ (i : Int) < (ha.length : Int) ∧ H1 = 1) ∨ ((i : Int) < (ha.length : Int) ∧ ∃ n bb oo, aa = some ⟨bb, oo, none⟩ ∧ wr.cell? ⟨bb, oo + i, none⟩ = some (.int .i64 n) ∧ H1 = hOf n)) := r1
      have HH1 : Hid (1 ≤ H1 ∧ H1 ≤ 8) := hH1
      clear r1 hH1
      have HCODEa : Hid (errP s1 x H1 = codeQ s1.es x) := errP_good HO.out.1 HH1.out.1 HH1.out.2 (by have := HO.out.2.1; omega)
      have HX : Hid (∀ X, Below w.heap.size w X → X.cell? ⟨b, off + i * 4, none⟩ = some (.string x.key) ∧ X.cell? ⟨b, off + i * 4 + 1, none⟩ = some (.int .i64 x.seq) ∧ X.cell? ⟨b, off + i * 4 + 2, none⟩ = some (.int .i64 x.kind) ∧ X.cell? ⟨b, off + i * 4 + 3, none⟩ = some (.string x.val)) := by
        intro X hX
        have e1 := World.block_lt_of_cell? _ _ x0
        obtain ⟨b', off', _, x', e, hx', y0, y1, y2, y3⟩ := (HLL.out.up hX).at i hgo.1
        obtain ⟨b'', off'', _, x'', e'', hx'', z0, z1, z2, z3⟩ := (HLL.out.up HO.out.2.2.2.2.2).at i hgo.1
        simp only [Value.slice.injEq, Option.some.injEq, Addr.mk.injEq] at e e''
        obtain ⟨⟨rfl, rfl, _⟩, _, rfl⟩ := e
        obtain ⟨⟨rfl, rfl, _⟩, _, rfl⟩ := e''
        obtain rfl : x' = x'' := by rw [hx'] at hx''; simpa using hx''
        have k0 := x0.symm.trans z0
        have k1 := x1.symm.trans z1
        have k2 := x2.symm.trans z2
        have k3 := x3.symm.trans z3
        simp at k0 k1 k2 k3
        rw [k0, k1, k2, k3]
        exact ⟨y0, y1, y2, y3⟩
      go_upto_if 36 with fail
      go_cut [8] from 33 to 44 (fun sA wy => sA = .int .i64 H1 ∧ wy = wr)
      case first =>
        rcases HR1.out with ⟨q, q1⟩ | ⟨q, n, bb, oo, q1, q2, q3⟩
        · subst q1
          go_wp2_with fail
          go_meet
          case rel => exact ⟨rfl, rfl⟩
        · subst q1
          obtain ⟨_, _, g1, g2, g3, g4⟩ := hOf_range n
          have HQ3 : Hid (H1 = hOf n) := q3
          have m1 : IntKind.i64.wrap (n.tmod 8) = n.tmod 8 := by simp [IntKind.wrap, IntKind.bits, IntKind.signed]; omega
          have m2 : IntKind.i64.wrap (n.tmod 8 + 8) = n.tmod 8 + 8 := by simp [IntKind.wrap, IntKind.bits, IntKind.signed]; omega
          have m3 : IntKind.i64.wrap ((n.tmod 8 + 8).tmod 8) = (n.tmod 8 + 8).tmod 8 := by simp [IntKind.wrap, IntKind.bits, IntKind.signed]; omega
          have m4 : IntKind.i64.wrap (1 + (n.tmod 8 + 8).tmod 8) = 1 + (n.tmod 8 + 8).tmod 8 := by simp [IntKind.wrap, IntKind.bits, IntKind.signed]; omega
          clear q3
          go_wp2_with fail
          go_meet
          case rel => exact ⟨by rw [HQ3.out, hOf_alt], rfl⟩
      case rest =>
      obtain ⟨rfl, hwc⟩ := hcut
      rw [hwc]
      clear hwc wc HR1
      obtain ⟨wv, hwv⟩ : ∃ wv, wv = wr := ⟨wr, rfl⟩
      subst hwv
      -- is the version there?
      generalize hEL : s1.es.length = EL at *
      have HEL : Hid (s1.es.length = EL) := hEL
      clear hEL
      go_wp2_with fail
      go_loopw [9, 10] (fun q9 q wy => ∃ (k : Nat) (f : Bool), k ≤ EL ∧ q = .int .i64 (k : Int) ∧ q9 = .bool f ∧ Hid (f = (s1.es.take k).any (fun e => twin e x) ∧ ∃ d, wy = wv.drewN d)) (fun _ q _ => EL - (intOf q).toNat)
      case atStart => exact ⟨0, false, by omega, rfl, rfl, by simp, 0, rfl⟩
      case round =>
        obtain ⟨k, f, hk, rfl, rfl, HF⟩ := hrel
        by_cases hkl : k < EL
        · have hkl' : (k : Int) < (EL : Int) := by omega
          have hELb : EL ≤ 40 := by have := HO.out.2.1; omega
          have hk0 : 0 ≤ (k : Int) := by omega
          have hi0 : 0 ≤ (i : Int) := by omega
          obtain ⟨d, hd⟩ := HF.out.2
          subst hd
          obtain ⟨by1, oy, cy, y, e, hy, y0, y1, y2, y3⟩ := (show EntsR wv (.slice b3 EL d3) s1.es from Rws.own HO.out.2.2.2.2.1).at k (by rw [HEL.out]; exact hkl)
          simp only [Value.slice.injEq] at e
          obtain ⟨rfl, _, rfl⟩ := e
          have HY : Hid (s1.es[k]? = some y) := hy
          obtain ⟨z0, z1, z2, z3⟩ := HX.out wv HO.out.2.2.2.2.2
          clear hy x0 x1 x2 x3
          cases f
          · by_cases q1 : y.key.toList = x.key.toList
            · have q1' : (y.key.toList == x.key.toList) = true := by simp [q1]
              have q1'' : decide (y.key.toList = x.key.toList) = true := by simp [q1]
              by_cases q2 : y.seq = x.seq
              · have q2' : (y.seq == x.seq) = true := by simp [q2]
                have HQ : Hid (y.key.toList = x.key.toList ∧ y.seq = x.seq) := ⟨q1, q2⟩
                go_wp2_with fail
                go_quiet (fail)
                go_wp2_with fail
                refine ⟨⟨k + 1, true, by omega, by go_num, rfl, ?_, d + nq, rfl⟩, by simp [intOf]; omega⟩
                rw [any_take_succ s1.es x k y HY.out, ← HF.out.1]
                simp [twin, HQ.out.1, HQ.out.2]
              · have q2' : (y.seq == x.seq) = false := by simp [q2]
                have HQ : Hid (y.key.toList = x.key.toList ∧ ¬ y.seq = x.seq) := ⟨q1, q2⟩
                go_wp2_with fail
                go_quiet (fail)
                go_wp2_with fail
                refine ⟨⟨k + 1, false, by omega, by go_num, rfl, ?_, d + nq, rfl⟩, by simp [intOf]; omega⟩
                rw [any_take_succ s1.es x k y HY.out, ← HF.out.1]
                simp [twin, HQ.out.1, HQ.out.2]
            · have q1' : (y.key.toList == x.key.toList) = false := by simp [q1]
              have q1'' : decide (y.key.toList = x.key.toList) = false := by simp [q1]
              have HQ : Hid (¬ y.key.toList = x.key.toList) := q1
              go_wp2_with fail
              go_quiet (fail)
              go_wp2_with fail
              refine ⟨⟨k + 1, false, by omega, by go_num, rfl, ?_, d + nq, rfl⟩, by simp [intOf]; omega⟩
              rw [any_take_succ s1.es x k y HY.out, ← HF.out.1]
              simp [twin, HQ.out]
          · go_wp2_with fail
            go_quiet (fail)
            go_wp2_with fail
            refine ⟨⟨k + 1, true, by omega, by go_num, rfl, ?_, d + nq, rfl⟩, by simp [intOf]; omega⟩
            rw [any_take_succ s1.es x k y HY.out, ← HF.out.1]
            simp
        · have hkl' : ¬ (k : Int) < (EL : Int) := by omega
          obtain ⟨d, hd⟩ := HF.out.2
          subst hd
          obtain ⟨W, hW⟩ : ∃ W, W = wv.drewN d := ⟨_, rfl⟩
          have UW : Hid (Below wv.heap.size wv W) := by rw [hW]; exact below_drewN (Below.refl _ _) d
          have HFF : Hid (f = s1.es.any (fun e => twin e x)) := by
            have := HF.out.1
            rw [show k = s1.es.length by rw [HEL.out]; omega, List.take_length] at this
            exact this
          have HOW : Hid (OwnSk W w.heap.size 62 (.slice b1 s1.nodes.length d1) (.slice b2 s1.head.length d2) s1 es1 ∧ W.heap[T1]? = some (.cells #[.slice b1 s1.nodes.length d1, .slice b2 s1.head.length d2] 30) ∧ OwnR W w.heap.size 27 4 (.slice b3 EL d3) (s1.es.map enRow) ∧ Below w.heap.size w W) := ⟨HO.out.2.2.1.up UW.out, blk_up HO.out.2.2.2.1 UW.out, HO.out.2.2.2.2.1.up UW.out, up_trans HO.out.2.2.2.2.2 UW.out⟩
          have HGD : Hid (Good s1 ∧ EL ≤ i) := ⟨HO.out.1, HO.out.2.1⟩
          have HTL : Hid (T1 < W.heap.size) := blk_lt HOW.out.2.1
          rw [← hW]
          clear hW HF x0 x1 x2 x3 HO UW
          obtain ⟨x0, x1, x2, x3⟩ := HX.out W HOW.out.2.2.2
          have p0 : W.cell? ⟨T1, 0, none⟩ = some (.slice b1 s1.nodes.length d1) := blk_cell HOW.out.2.1 0 _ rfl
          have p1 : W.cell? ⟨T1, 1, none⟩ = some (.slice b2 s1.head.length d2) := blk_cell HOW.out.2.1 1 _ rfl
          generalize hcode : codeQ s1.es x = CODE at *
          have HCD : Hid (codeQ s1.es x = CODE) := hcode
          clear hcode
          generalize hm1 : s1.head.length = m1 at *
          have HM1 : Hid (s1.head.length = m1) := hm1
          clear hm1
          have HQa : Hid (∀ X, Below W.heap.size W X → Calls Try.prog 9 #[.agg #[.slice b1 s1.nodes.length d1, .slice b2 m1 d2], .agg #[.string x.key, .int .i64 x.seq, .int .i64 x.kind, .string x.val], .int .i64 H1] X fun e w' => ∃ a n c a2 n2 c2, e = .returned (.tuple #[.agg #[.slice a n c, .slice a2 n2 c2], .int .i64 CODE]) ∧ w'.cell? ⟨T1, 0, none⟩ = some (.slice b1 s1.nodes.length d1) ∧ w'.cell? ⟨T1, 1, none⟩ = some (.slice b2 m1 d2) ∧ w'.cell? ⟨b, off + i * 4, none⟩ = some (.string x.key) ∧ w'.cell? ⟨b, off + i * 4 + 1, none⟩ = some (.int .i64 x.seq) ∧ w'.cell? ⟨b, off + i * 4 + 2, none⟩ = some (.int .i64 x.kind) ∧ w'.cell? ⟨b, off + i * 4 + 3, none⟩ = some (.string x.val) ∧ Hid (∃ t es', OwnSk w' W.heap.size 62 (.slice a n c) (.slice a2 n2 c2) t es' ∧ IsPut s1 x H1 t ∧ n = t.nodes.length) ∧ Hid (Below X.heap.size X w' ∧ Below W.heap.size W w')) := by
            intro X hX
            have hp := put_any s1 es1 (.slice b1 s1.nodes.length d1) (.slice b2 m1 d2) x H1 X ((fun X hX => HOW.out.1.read.up hX) X hX)
            rw [HCODEa.out] at hp
            refine hp.mono ?_
            rintro e w' ⟨vN', vH', t, es', rfl, ho, hu⟩
            obtain ⟨⟨a, c, rfl⟩, ⟨a2, c2, rfl⟩⟩ := ho.out.1.read.form
            have hb := up_trans hX hu.out
            have lt : ∀ {bb : Addr} {q : Value}, W.cell? bb = some q → w'.cell? bb = some q := fun hq => (hb.cell (World.block_lt_of_cell? W _ hq)).trans hq
            exact ⟨a, _, c, a2, _, c2, rfl, lt p0, lt p1, lt x0, lt x1, lt x2, lt x3, ⟨t, es', ho.out.1.mono hX.size, ho.out.2, rfl⟩, hu.out, hb⟩
          have UAa : Hid (Below W.heap.size W W.drew) := up_dr (Below.refl _ _)
          have UBa : Hid (Below W.heap.size W (W.alloc (.cells #[.slice none 0 0, .slice none 0 0] 30)).drew) := up_dr (up_al (Below.refl _ _) _)
          have TBa : Hid ((W.alloc (.cells #[.slice none 0 0, .slice none 0 0] 30)).drew.heap[W.heap.size]? = some (.cells #[.slice none 0 0, .slice none 0 0] 30)) := blk_up (blk_new W _) (up_dr (Below.refl _ _))
          have HRa : Hid (Calls Try.prog 9 #[.agg #[.slice b1 s1.nodes.length d1, .slice b2 m1 d2], .agg #[.string x.key, .int .i64 x.seq, .int .i64 x.kind, .string x.val], .int .i64 H1] (W.alloc (.cells #[.slice none 0 0, .slice none 0 0] 30)).drew fun e w' => ∃ a n c a2 n2 c2, e = .returned (.tuple #[.agg #[.slice a n c, .slice a2 n2 c2], .int .i64 CODE]) ∧ w'.cell? ⟨T1, 0, none⟩ = some (.slice b1 s1.nodes.length d1) ∧ w'.cell? ⟨T1, 1, none⟩ = some (.slice b2 m1 d2) ∧ w'.cell? ⟨b, off + i * 4, none⟩ = some (.string x.key) ∧ w'.cell? ⟨b, off + i * 4 + 1, none⟩ = some (.int .i64 x.seq) ∧ w'.cell? ⟨b, off + i * 4 + 2, none⟩ = some (.int .i64 x.kind) ∧ w'.cell? ⟨b, off + i * 4 + 3, none⟩ = some (.string x.val) ∧ w'.cell? ⟨W.heap.size, 0, none⟩ = some (.slice none 0 0) ∧ w'.cell? ⟨W.heap.size, 1, none⟩ = some (.slice none 0 0) ∧ w'.frozen? ⟨W.heap.size, 0, none⟩ = false ∧ w'.frozen? ⟨W.heap.size, 1, none⟩ = false ∧ Hid ((∃ t es', OwnSk w' W.heap.size 62 (.slice a n c) (.slice a2 n2 c2) t es' ∧ IsPut s1 x H1 t ∧ n = t.nodes.length) ∧ Below W.heap.size W w' ∧ w'.heap[W.heap.size]? = some (.cells #[.slice none 0 0, .slice none 0 0] 30))) := by
            refine (HQa.out _ UBa.out).mono ?_
            rintro e w' ⟨a, n, c, a2, n2, c2, rfl, k0, k1, k2, k3, k4, k5, ho, hu⟩
            have kb := blk_up TBa.out hu.out.1
            exact ⟨a, n, c, a2, n2, c2, rfl, k0, k1, k2, k3, k4, k5, blk_cell kb 0 _ rfl, blk_cell kb 1 _ rfl, blk_frozen kb 0, blk_frozen kb 1, ho.out, hu.out.2, kb⟩
          have HSa : Hid (Calls Try.prog 9 #[.agg #[.slice b1 s1.nodes.length d1, .slice b2 m1 d2], .agg #[.string x.key, .int .i64 x.seq, .int .i64 x.kind, .string x.val], .int .i64 H1] W.drew fun e w' => ∃ a n c a2 n2 c2, e = .returned (.tuple #[.agg #[.slice a n c, .slice a2 n2 c2], .int .i64 CODE]) ∧ w'.cell? ⟨T1, 0, none⟩ = some (.slice b1 s1.nodes.length d1) ∧ w'.cell? ⟨T1, 1, none⟩ = some (.slice b2 m1 d2) ∧ w'.cell? ⟨b, off + i * 4, none⟩ = some (.string x.key) ∧ w'.cell? ⟨b, off + i * 4 + 1, none⟩ = some (.int .i64 x.seq) ∧ w'.cell? ⟨b, off + i * 4 + 2, none⟩ = some (.int .i64 x.kind) ∧ w'.cell? ⟨b, off + i * 4 + 3, none⟩ = some (.string x.val) ∧ Hid ((∃ t es', OwnSk w' W.heap.size 62 (.slice a n c) (.slice a2 n2 c2) t es' ∧ IsPut s1 x H1 t ∧ n = t.nodes.length) ∧ Below W.heap.size W w')) := by
            refine (HQa.out _ UAa.out).mono ?_
            rintro e w' ⟨a, n, c, a2, n2, c2, rfl, k0, k1, k2, k3, k4, k5, ho, hu⟩
            exact ⟨a, n, c, a2, n2, c2, rfl, k0, k1, k2, k3, k4, k5, ho.out, hu.out.2⟩
          have zza : ¬ W.heap.size = T1 := by have := World.block_lt_of_cell? W _ p0; simp only at this; omega
          have zya : ¬ T1 = W.heap.size := fun q => zza q.symm
          have zba : ¬ W.heap.size = b := by have := World.block_lt_of_cell? W _ x0; simp only at this; omega
          have zca : ¬ b = W.heap.size := fun q => zba q.symm
          have dd0 := fun o => ((up_dr (up_al (Below.refl W.heap.size W) o)).cell (World.block_lt_of_cell? _ _ p0)).trans p0
          have dd1 := fun o => ((up_dr (up_al (Below.refl W.heap.size W) o)).cell (World.block_lt_of_cell? _ _ p1)).trans p1
          have dd2 := fun o => ((up_dr (up_al (Below.refl W.heap.size W) o)).cell (World.block_lt_of_cell? _ _ x0)).trans x0
          have dd3 := fun o => ((up_dr (up_al (Below.refl W.heap.size W) o)).cell (World.block_lt_of_cell? _ _ x1)).trans x1
          have dd4 := fun o => ((up_dr (up_al (Below.refl W.heap.size W) o)).cell (World.block_lt_of_cell? _ _ x2)).trans x2
          have dd5 := fun o => ((up_dr (up_al (Below.refl W.heap.size W) o)).cell (World.block_lt_of_cell? _ _ x3)).trans x3
          clear HQa UAa UBa TBa
          go_upto_region 16 with fail
          go_cut [11, 12] from 78 to 87 (fun sA sB wy => ∃ (T : Nat) (t : Sk) (es' : List (En × Value)) (a : Option Addr) (c : Nat) (a2 : Option Addr) (n2 c2 : Nat), sA = .pointer (some ⟨T, 0, none⟩) ∧ sB = .int .i64 CODE ∧ Hid (wy.heap[T]? = some (.cells #[.slice a t.nodes.length c, .slice a2 n2 c2] 30) ∧ OwnSk wy W.heap.size 62 (.slice a t.nodes.length c) (.slice a2 n2 c2) t es' ∧ IsPut s1 x H1 t ∧ Below W.heap.size W wy ∧ W.heap.size ≤ T))
          case first =>
            go_region_held3 (fun w' => w'.cell? ⟨T1, 0, none⟩ = some (.slice b1 s1.nodes.length d1) ∧ w'.cell? ⟨T1, 1, none⟩ = some (.slice b2 m1 d2) ∧ w'.cell? ⟨b, off + i * 4, none⟩ = some (.string x.key) ∧ w'.cell? ⟨b, off + i * 4 + 1, none⟩ = some (.int .i64 x.seq) ∧ w'.cell? ⟨b, off + i * 4 + 2, none⟩ = some (.int .i64 x.kind) ∧ w'.cell? ⟨b, off + i * 4 + 3, none⟩ = some (.string x.val)) (first | with_reducible exact ⟨y0, y1, y2, y3, y4, y5⟩ | with_reducible exact ⟨p0, p1, x0, x1, x2, x3⟩ | with_reducible exact ⟨dd0 _, dd1 _, dd2 _, dd3 _, dd4 _, dd5 _⟩ | with_reducible exact ⟨cell_al _ y0, cell_al _ y1, cell_al _ y2, cell_al _ y3, cell_al _ y4, cell_al _ y5⟩ | (simp [go_sem, y0, y1, y2, y3, y4, y5, zza, zya, zba, zca]; done) | (simp [go_sem, p0, p1, x0, x1, x2, x3]; done)) (first
              | (go_at_call 9; with_reducible refine HSa.out.mono ?_; rintro e w2 ⟨a, n, c, a2, n2, c2, rfl, y0, y1, y2, y3, y4, y5, hs⟩)
              | (go_at_call 9; with_reducible refine HRa.out.mono ?_; rintro e w2 ⟨a, n, c, a2, n2, c2, rfl, y0, y1, y2, y3, y4, y5, t0, t1, f0, f1, hs⟩))
            · obtain ⟨⟨t, es', ho, hp, rfl⟩, hb⟩ := hs.out
              have HF : Hid (OwnSk w2 W.heap.size 62 (.slice a t.nodes.length c) (.slice a2 n2 c2) t es' ∧ IsPut s1 x H1 t ∧ Below W.heap.size W w2) := ⟨ho, hp, hb⟩
              clear ho hp hb hs y0 y1 y2 y3 y4 y5
              go_wp2_with fail
              go_meet
              case rel =>
                refine ⟨_, t, es', a, c, a2, n2, c2, rfl, rfl, ?_⟩
                unfold Hid
                exact ⟨blk_new _ _, HF.out.1.up (up_alloc _ _), HF.out.2.1, up_al HF.out.2.2 _, HF.out.2.2.size⟩
            · obtain ⟨⟨t, es', ho, hp, rfl⟩, hb, hT⟩ := hs.out
              have HF : Hid (OwnSk w2 W.heap.size 62 (.slice a t.nodes.length c) (.slice a2 n2 c2) t es' ∧ IsPut s1 x H1 t ∧ Below W.heap.size W w2 ∧ w2.heap[W.heap.size]? = some (.cells #[.slice none 0 0, .slice none 0 0] 30)) := ⟨ho, hp, hb, hT⟩
              clear ho hp hb hT hs y0 y1 y2 y3 y4 y5 t0 t1 f0 f1
              go_wp2_with fail
              go_meet
              case rel =>
                refine ⟨_, t, es', a, c, a2, n2, c2, rfl, rfl, ?_⟩
                have g2 := set2_grown w2 W.heap.size (.slice a t.nodes.length c) (.slice a2 n2 c2)
                unfold Hid
                exact ⟨set2_blk HF.out.2.2.2 _ _, HF.out.1.block HF.out.2.2.2 (by decide) (by decide) g2, HF.out.2.1, HF.out.2.2.1.grown g2 HF.out.2.2.1.size (fun k hk => by injection hk with hk; omega), Nat.le_refl _⟩
          case rest =>
          clear HRa HSa dd0 dd1 dd2 dd3 dd4 dd5 zza zya zba zca

          obtain ⟨T2, u1, eu1, f1, g1, f2, fn2, g2, rfl, rfl, HU1⟩ := hcut
          clear p0 p1 x0 x1 x2 x3
          have HZ : Hid (OwnSk wc w.heap.size 62 (.slice b1 s1.nodes.length d1) (.slice b2 m1 d2) s1 es1 ∧ wc.heap[T1]? = some (.cells #[.slice b1 s1.nodes.length d1, .slice b2 m1 d2] 30) ∧ OwnR wc w.heap.size 27 4 (.slice b3 EL d3) (s1.es.map enRow) ∧ Below w.heap.size w wc ∧ OwnSk wc w.heap.size 62 (.slice f1 u1.nodes.length g1) (.slice f2 fn2 g2) u1 eu1) := by
            have u := HU1.out.2.2.2.1
            exact ⟨HOW.out.1.up u, blk_up HOW.out.2.1 u, HOW.out.2.2.1.up u, up_trans HOW.out.2.2.2 u, HU1.out.2.1.mono HOW.out.2.2.2.size⟩
          obtain ⟨x0, x1, x2, x3⟩ := HX.out wc HZ.out.2.2.2.1
          have HMY := refMay_any x wc
          unfold enV enObj at HMY
          go_wp2_with fail
          refine HMY.mono ?_
          rintro e w9 ⟨rfl, hw9⟩
          have U9 : Hid (Below wc.heap.size wc w9) := by rw [hw9]; exact up_alloc _ _
          clear HMY hw9 x0 x1 x2 x3
          have HZ9 : Hid (OwnSk w9 w.heap.size 62 (.slice b1 s1.nodes.length d1) (.slice b2 m1 d2) s1 es1 ∧ w9.heap[T1]? = some (.cells #[.slice b1 s1.nodes.length d1, .slice b2 m1 d2] 30) ∧ OwnR w9 w.heap.size 27 4 (.slice b3 EL d3) (s1.es.map enRow) ∧ Below w.heap.size w w9 ∧ OwnSk w9 w.heap.size 62 (.slice f1 u1.nodes.length g1) (.slice f2 fn2 g2) u1 eu1 ∧ w9.heap[T2]? = some (.cells #[.slice f1 u1.nodes.length g1, .slice f2 fn2 g2] 30)) := ⟨HZ.out.1.up U9.out, blk_up HZ.out.2.1 U9.out, HZ.out.2.2.1.up U9.out, up_trans HZ.out.2.2.2.1 U9.out, HZ.out.2.2.2.2.up U9.out, blk_up HU1.out.1 U9.out⟩
          have HKEEP : Hid (∃ (i_1 : Nat) (s1 : Sk) (es1 : List (En × Value)) (b1 b2 b3 : Option Addr) (d1 d2 d3 : Nat), True) := ⟨0, s1, es1, b1, b2, b3, d1, d2, d3, trivial⟩
          have HNM : Hid (∀ c : Int, Calls Try.prog 16 #[.int .i64 c] w9 fun e w' => e = .returned (.int .i64 c) ∧ w' = w9) := fun c => num_any c w9
          cases hm : mayE x
          · obtain rfl : CODE = 1 := by rw [← HCD.out]; unfold codeQ; rw [if_pos hm]
            clear hm
            go_wp2_with fail
            refine (HNM.out 1).mono ?_
            rintro e w10 ⟨rfl, hw10⟩
            rw [hw10]
            clear hw10 w10
            go_wp2_with fail
            refine ⟨⟨i + 1, s1, es1, b1, b2, b3, d1, d2, d3, by omega, by omega, by go_num, by rw [HEL.out], ?_⟩, by simp [intOf]; omega⟩
            unfold Hid
            rw [HM1.out, HEL.out]
            exact ⟨HGD.out.1, by have := HGD.out.2; omega, HZ9.out.1, HZ9.out.2.1, HZ9.out.2.2.1, HZ9.out.2.2.2.1⟩
          · cases f
            · obtain rfl : CODE = 0 := by rw [← HCD.out]; unfold codeQ; rw [hm, ← HFF.out]; rfl
              have HPUT : Hid (Good u1 ∧ u1.es = s1.es ++ [x]) := by
                have := HU1.out.2.2.1.2 HCODEa.out
                exact ⟨this.1, this.2.1⟩
              have HNN : Hid (u1.nodes.length = EL + 1) := by
                unfold Hid
                rw [← Sk.es_len, HPUT.out.2, List.length_append, HEL.out]
                rfl
              have HU9 : Hid (OwnSk w9 w.heap.size 62 (.slice f1 u1.nodes.length g1) (.slice f2 fn2 g2) u1 eu1 ∧ w9.heap[T2]? = some (.cells #[.slice f1 u1.nodes.length g1, .slice f2 fn2 g2] 30)) := ⟨HZ9.out.2.2.2.2.1, HZ9.out.2.2.2.2.2⟩
              have q0 : w9.cell? ⟨T2, 0, none⟩ = some (.slice f1 u1.nodes.length g1) := blk_cell HU9.out.2 0 _ rfl
              have q1 : w9.cell? ⟨T2, 1, none⟩ = some (.slice f2 fn2 g2) := blk_cell HU9.out.2 1 _ rfl
              have t0 : w9.cell? ⟨T1, 0, none⟩ = some (.slice b1 s1.nodes.length d1) := blk_cell HZ9.out.2.1 0 _ rfl
              have t1 : w9.cell? ⟨T1, 1, none⟩ = some (.slice b2 m1 d2) := blk_cell HZ9.out.2.1 1 _ rfl
              have j0 := fun k => blk_frozen HZ9.out.2.1 k
              have hEL40 : EL ≤ 40 := by have := HGD.out.2; omega
              have hnn1 : ((u1.nodes.length : Int) != (EL : Int) + 1) = false := by rw [HNN.out]; simp
              have hnn2 : (u1.nodes.length : Int) = (EL : Int) + 1 := by rw [HNN.out]; rfl
              have HHN : Hid ((u1.nodes.length : Int) = (EL : Int) + 1) := hnn2
              clear hnn2
              -- the world behind s = t
              obtain ⟨wS, hwS⟩ : ∃ wS, wS = (w9.setCell ⟨T1, 0, none⟩ (.slice f1 u1.nodes.length g1)).setCell ⟨T1, 1, none⟩ (.slice f2 fn2 g2) := ⟨_, rfl⟩
              have HWS : Hid ((w9.setCell ⟨T1, 0, none⟩ (.slice f1 u1.nodes.length g1)).setCell ⟨T1, 1, none⟩ (.slice f2 fn2 g2) = wS) := hwS.symm
              have HSS : Hid (OwnSk wS w.heap.size 62 (.slice f1 u1.nodes.length g1) (.slice f2 fn2 g2) u1 eu1 ∧ wS.heap[T1]? = some (.cells #[.slice f1 u1.nodes.length g1, .slice f2 fn2 g2] 30) ∧ OwnR wS w.heap.size 27 4 (.slice b3 EL d3) (s1.es.map enRow) ∧ Below w.heap.size w wS) := by
                have ga : w9.grownBy wS (some T1) := by rw [hwS]; exact set2_grown _ _ _ _
                refine ⟨HU9.out.1.block HZ9.out.2.1 (by decide) (by decide) ga, by rw [hwS]; exact set2_blk HZ9.out.2.1 _ _, HZ9.out.2.2.1.far ga (own_blk_ne HZ9.out.2.2.1.2 HZ9.out.2.1 (by decide)), HZ9.out.2.2.2.1.grown ga HZ9.out.2.2.2.1.size (fun k hk => by injection hk with hk; have := HSZ.out; omega)⟩
              obtain ⟨x0, x1, x2, x3⟩ := HX.out wS HSS.out.2.2.2
              rw [← HWS.out] at x0 x1 x2 x3
              have HRA : Hid (OwnR (wS.alloc (.cells #[.string x.key, .int .i64 x.seq, .int .i64 x.kind, .string x.val] 27)) w.heap.size 27 4 (.slice b3 EL d3) (s1.es.map enRow)) := HSS.out.2.2.1.up (up_alloc _ _)
              have HRM : Hid (Rws 4 (wS.alloc (.cells #[.string x.key, .int .i64 x.seq, .int .i64 x.kind, .string x.val] 27)) (.slice (some ⟨wS.heap.size, 0, none⟩) 1 1) [enRow x]) := Rws.made (sz := 4) wS 27 [enRow x] (by simp [enRow]) (by simp [maxLen])
              have HB1 : Hid (((s1.es.map enRow).length + [enRow x].length + ((s1.es.map enRow).length + [enRow x].length) / 4 + 192) * 48 ≤ 281474976710656 ∧ (s1.es.map enRow).length + [enRow x].length ≤ maxLen) := by
                have := HEL.out
                unfold Hid maxLen; simp only [List.length_map, List.length_cons, List.length_nil]; omega
              have HB2 : Hid (w.heap.size ≤ (wS.alloc (.cells #[.string x.key, .int .i64 x.seq, .int .i64 x.kind, .string x.val] 27)).heap.size) := Nat.le_trans HSS.out.2.2.2.size (up_alloc _ _).size
              clear hm hwS
              go_wp2_with fail
              refine (HNM.out 0).mono ?_
              rintro e w10 ⟨rfl, hw10⟩
              rw [hw10]
              clear hw10 w10
              go_upto_region 20 with fail
              rw [HWS.out]
              rw [HWS.out] at x0 x1 x2 x3
              clear HWS
              go_wp2_with (at_builtin; refine wpList_append_rows _ rfl _ _ 41 27 _ 4 48 rfl Try.underlying41 Try.info27 rfl (by decide) w.heap.size (.slice b3 EL d3) (s1.es.map enRow) rfl HRA.out (.slice (some ⟨wS.heap.size, 0, none⟩) 1 1) [enRow x] rfl HRM.out (enRow_one x) HB1.out.1 HB1.out.2 HB2.out ?_)
              intro v6 w6 o6 g6
              obtain ⟨a6, c6, e6, _, _⟩ := (Rws.own o6).len
              simp only [List.length_append, List.length_map, List.length_cons, List.length_nil] at e6
              subst e6
              have HNEW : Hid (Good u1 ∧ u1.es.length ≤ i + 1 ∧ OwnSk w6 w.heap.size 62 (.slice f1 u1.nodes.length g1) (.slice f2 u1.head.length g2) u1 eu1 ∧ w6.heap[T1]? = some (.cells #[.slice f1 u1.nodes.length g1, .slice f2 u1.head.length g2] 30) ∧ OwnR w6 w.heap.size 27 4 (.slice a6 u1.es.length c6) (u1.es.map enRow) ∧ Below w.heap.size w w6) := by
                have e1 : fn2 = u1.head.length := by
                  obtain ⟨_, ⟨_, _, e⟩⟩ := HSS.out.1.read.form
                  simp only [Value.slice.injEq] at e
                  exact e.2.1
                subst e1
                have ga := grown_trans (grown_up (up_alloc wS (.cells #[.string x.key, .int .i64 x.seq, .int .i64 x.kind, .string x.val] 27)) (Value.ownBlock (.slice b3 EL d3))) g6
                have el : u1.es.length = s1.es.length + 1 := by rw [HPUT.out.2]; simp
                have hn1 : some T1 ≠ Value.ownBlock (.slice b3 EL d3) := by
                  rcases own_blk_ne HSS.out.2.2.1.2 HSS.out.2.1 (by decide) with q | q
                  · rw [q]; simp
                  · exact fun e => q e.symm
                refine ⟨HPUT.out.1, by rw [el, HEL.out]; have := HGD.out.2; omega, ?_, blk_grown HSS.out.2.1 ga hn1, ?_, ?_⟩
                · refine HSS.out.1.far ga (own_own_ne HSS.out.1.nodes.2 HSS.out.2.2.1.2 (by decide)) (own_own_ne HSS.out.1.head.2 HSS.out.2.2.1.2 (by decide)) (fun p hp => ?_)
                  obtain ⟨k2, hk2⟩ := List.mem_iff_getElem?.1 hp
                  exact own_own_ne (HSS.out.1.nexts k2 p hk2).2 HSS.out.2.2.1.2 (by decide)
                · rw [el, HPUT.out.2, List.map_append]
                  exact o6
                · exact HSS.out.2.2.2.grown ga HSS.out.2.2.2.size (fun k hk => (HSS.out.2.2.1.2.lt k hk).1)
              have HLE : Hid (u1.es.length = s1.es.length + 1) := by unfold Hid; rw [HPUT.out.2]; simp
              clear o6 g6 x0 x1 x2 x3 q0 q1 t0 t1
              go_wp2_with fail
              refine ⟨⟨i + 1, u1, eu1, f1, f2, a6, g1, g2, c6, by omega, by omega, by go_num, by rw [HLE.out], HNEW⟩, by simp [intOf]; omega⟩
            · obtain rfl : CODE = 6 := by rw [← HCD.out]; unfold codeQ; rw [hm, ← HFF.out]; rfl
              clear hm
              go_wp2_with fail
              refine (HNM.out 6).mono ?_
              rintro e w10 ⟨rfl, hw10⟩
              rw [hw10]
              clear hw10 w10
              go_wp2_with fail
              refine ⟨⟨i + 1, s1, es1, b1, b2, b3, d1, d2, d3, by omega, by omega, by go_num, by rw [HEL.out], ?_⟩, by simp [intOf]; omega⟩
              unfold Hid
              rw [HM1.out, HEL.out]
              exact ⟨HGD.out.1, by have := HGD.out.2; omega, HZ9.out.1, HZ9.out.2.1, HZ9.out.2.2.1, HZ9.out.2.2.2.1⟩
    · have hgo2 : ¬ (i : Int) < (l.length : Int) ∨ ((i : Int) < (l.length : Int) ∧ ¬ (i : Int) < 40) := by omega
      have HE0 : Hid (errC s1 = 0 ∧ allV s1 = s1.all) := by
        refine ⟨errC_good HO.out.1, ?_⟩
        unfold allV
        rw [(checkS_iff s1).2 HO.out.1]
        rfl
      generalize hm1 : s1.head.length = m1 at *
      clear hm1
      have p0 : wr.cell? ⟨T1, 0, none⟩ = some (.slice b1 s1.nodes.length d1) := blk_cell HO.out.2.2.2.1 0 _ rfl
      have p1 : wr.cell? ⟨T1, 1, none⟩ = some (.slice b2 m1 d2) := blk_cell HO.out.2.2.2.1 1 _ rfl
      have HA1 := all_any s1 es1 _ _ wr HO.out.2.2.1.read
      rw [HE0.out.1, HE0.out.2] at HA1
      have HA1H : Hid (Calls Try.prog 13 #[.agg #[.slice b1 s1.nodes.length d1, .slice b2 m1 d2]] wr fun e w' => ∃ a n c, e = .returned (.tuple #[.slice a n c, .int .i64 0]) ∧ Hid (n = s1.all.length ∧ OwnR w' wr.heap.size 27 4 (.slice a n c) (s1.all.map enRow)) ∧ Hid (Below wr.heap.size wr w')) := HA1
      have HAN : Hid (s1.all.length = s1.es.length) := by unfold Hid; rw [all_len, Sk.es_len]
      have hEL40 : s1.es.length ≤ 40 := by have := HO.out.2.1; omega
      generalize hEL : s1.es.length = EL at *
      have HEL : Hid (s1.es.length = EL) := hEL
      clear HA1 hEL
      rcases hgo2 with hgo3 | ⟨hgo3, hgo4⟩
      all_goals
        clear hgo
        go_wp2_with fail
        refine HA1H.out.mono ?_
        rintro e wA ⟨e1, n1, e2, rfl, HL1, UA⟩
        obtain rfl : n1 = EL := by rw [HL1.out.1, HAN.out]
        clear HA1H p0 p1
        have HLA : Hid (EntsR wA (.slice e1 n1 e2) s1.all) := Rws.own HL1.out.2
        have HOA : Hid (OwnSk wA w.heap.size 62 (.slice b1 s1.nodes.length d1) (.slice b2 m1 d2) s1 es1 ∧ wA.heap[T1]? = some (.cells #[.slice b1 s1.nodes.length d1, .slice b2 m1 d2] 30) ∧ EntsR wA (.slice b3 n1 d3) s1.es ∧ Below w.heap.size w wA ∧ Good s1) := ⟨HO.out.2.2.1.up UA.out, blk_up HO.out.2.2.2.1 UA.out, (show EntsR wr (.slice b3 n1 d3) s1.es from Rws.own HO.out.2.2.2.2.1).up UA.out, up_trans HO.out.2.2.2.2.2 UA.out, HO.out.1⟩
        have HN0 : Hid (∀ W, Calls Try.prog 16 #[.int .i64 0] W fun e w' => e = .returned (.int .i64 0) ∧ w' = W) := fun W => num_any 0 W
        have hnn : ((n1 : Int) != (n1 : Int)) = false := by simp
        clear HO HL1 UA
        go_wp2_with fail
        refine (HN0.out _).mono ?_
        rintro e w9 ⟨rfl, hw9⟩
        rw [hw9]
        clear hw9 w9
        go_wp2_with fail
        go_loopw [15] (fun q wy => ∃ k : Nat, 1 ≤ k ∧ k ≤ n1 + 1 ∧ q = .int .i64 (k : Int) ∧ Hid (Below wA.heap.size wA wy)) (fun q _ => n1 + 1 - (intOf q).toNat)
        case atStart => exact ⟨1, by omega, by omega, rfl, Below.refl _ _⟩
        case round =>
          obtain ⟨k, hk1, hk2, rfl, HB⟩ := hrel
          by_cases hkl : k < n1
          · have hkl' : (k : Int) < (n1 : Int) := by omega
            obtain ⟨j, rfl⟩ : ∃ j, k = j + 1 := ⟨k - 1, by omega⟩
            have ej : ((j + 1 : Nat) : Int) = (j : Int) + 1 := by omega
            rw [ej] at hkl' ⊢
            have hj0 : 0 ≤ (j : Int) := by omega
            have hj1 : (j : Int) < (n1 : Int) := by omega
            have hj2 : (j : Int) + 1 - 1 = (j : Int) := by omega
            have hj3 : 0 ≤ (j : Int) + 1 := by omega
            have hwr3 : IntKind.i64.wrap ((j : Int) + 1) = (j : Int) + 1 := by simp [IntKind.wrap, IntKind.bits, IntKind.signed]; omega
            have hwr1 : IntKind.i64.wrap (j : Int) = (j : Int) := by simp [IntKind.wrap, IntKind.bits, IntKind.signed]; omega
            have hwr2 : IntKind.i64.wrap ((j : Int) + 1 - 1) = (j : Int) := by rw [Int.add_sub_cancel]; exact hwr1
            obtain ⟨by1, oy, cy, y, e, hy, y0, y1, y2, y3⟩ := (HLA.out.up HB.out).at j (by rw [HAN.out]; omega)
            simp only [Value.slice.injEq] at e
            obtain ⟨rfl, hx_, rfl⟩ := e
            clear hx_
            obtain ⟨_, _, _, z, e, hz, z0, z1, z2, z3⟩ := (HLA.out.up HB.out).at (j + 1) (by rw [HAN.out]; omega)
            simp only [Value.slice.injEq, Option.some.injEq, Addr.mk.injEq] at e
            obtain ⟨⟨rfl, rfl, _⟩, hx_, rfl⟩ := e
            clear hx_
            have HBF : Hid (beforeE y z = true) := all_srt HOA.out.2.2.2.2 j y z hy hz
            clear hy hz
            have ez : oy + (j + 1) * 4 = oy + (j + 1) * 4 := rfl
            have Y0 := cell_up y0
            have Y1 := cell_up y1
            have Y2 := cell_up y2
            have Y3 := cell_up y3
            have Z0 := cell_up z0
            have Z1 := cell_up z1
            have Z2 := cell_up z2
            have Z3 := cell_up z3
            have tn : ((j : Int) + 1).toNat = j + 1 := by omega
            clear y0 y1 y2 y3 z0 z1 z2 z3 ez
            go_upto_region 33 with fail
            refine wp_region_up (by kernel_rfl) (by kernel_rfl) ?_
            repeat (quiet_step ((go_at_call 24; refine calls_up (refBeforeP y z true HBF.out _))))
            refine wpQuiet_nil ?_
            intro _ hw'
            obtain ⟨p, hw''⟩ := hw'
            subst hw''
            have HBP : Hid (Below wA.heap.size wA p.val) := up_trans HB.out p.up
            go_wp2_with fail
            exact ⟨⟨j + 2, by omega, by omega, by go_num, HBP⟩, by simp [intOf]; omega⟩
          · have hkl' : ¬ (k : Int) < (n1 : Int) := by omega
            obtain ⟨wB, hwB⟩ : ∃ wB, wB = wr := ⟨wr, rfl⟩
            subst hwB
            go_wp2_with fail
            go_loopw [16] (fun q wy => ∃ k : Nat, k ≤ n1 ∧ q = .int .i64 (k : Int) ∧ Hid (Below wB.heap.size wB wy)) (fun q _ => n1 - (intOf q).toNat)
            case atStart => exact ⟨0, by omega, rfl, Below.refl _ _⟩
            case round =>
              obtain ⟨g, hg, rfl, HBG⟩ := hrel
              obtain ⟨wC, hwC⟩ : ∃ wC, wC = wr := ⟨wr, rfl⟩
              subst hwC
              have UAC : Hid (Below wA.heap.size wA wC) := up_trans HB.out HBG.out
              by_cases hgl : g < n1
              · have hgl' : (g : Int) < (n1 : Int) := by omega
                have hg0 : 0 ≤ (g : Int) := by omega
                obtain ⟨by1, oy, cy, y, e, hy, y0, y1, y2, y3⟩ := (HOA.out.2.2.1.up UAC.out).at g (by rw [HEL.out]; exact hgl)
                simp only [Value.slice.injEq] at e
                obtain ⟨rfl, hx_, rfl⟩ := e
                clear hx_
                have HGE : Hid (getV s1 y.key y.seq = (y, true, 0)) := get_each HOA.out.2.2.2.2 g y hy
                have p0 : wC.cell? ⟨T1, 0, none⟩ = some (.slice b1 s1.nodes.length d1) := blk_cell (blk_up HOA.out.2.1 UAC.out) 0 _ rfl
                have p1 : wC.cell? ⟨T1, 1, none⟩ = some (.slice b2 m1 d2) := blk_cell (blk_up HOA.out.2.1 UAC.out) 1 _ rfl
                clear hy
                have HQ : Hid (∀ X, Below wC.heap.size wC X → Calls Try.prog 11 #[.agg #[.slice b1 s1.nodes.length d1, .slice b2 m1 d2], .string y.key, .int .i64 y.seq] X fun e w' => e = .returned (.tuple #[.agg #[.string y.key, .int .i64 y.seq, .int .i64 y.kind, .string y.val], .bool true, .int .i64 0]) ∧ w'.cell? ⟨T1, 0, none⟩ = some (.slice b1 s1.nodes.length d1) ∧ w'.cell? ⟨T1, 1, none⟩ = some (.slice b2 m1 d2) ∧ w'.cell? ⟨by1, oy + g * 4, none⟩ = some (.string y.key) ∧ w'.cell? ⟨by1, oy + g * 4 + 1, none⟩ = some (.int .i64 y.seq) ∧ Hid (Below X.heap.size X w' ∧ Below wC.heap.size wC w')) := by
                  intro X hX
                  have hp := get_any s1 es1 (.slice b1 s1.nodes.length d1) (.slice b2 m1 d2) y.key y.seq X (HOA.out.1.read.up (up_trans UAC.out hX))
                  rw [HGE.out] at hp
                  refine hp.mono ?_
                  rintro e w' ⟨rfl, hu⟩
                  have hb := up_trans hX hu.out
                  have lt : ∀ {bb : Addr} {q : Value}, wC.cell? bb = some q → w'.cell? bb = some q := fun hq => (hb.cell (World.block_lt_of_cell? wC _ hq)).trans hq
                  exact ⟨rfl, lt p0, lt p1, lt y0, lt y1, hu.out, hb⟩
                have UA0 : Hid (Below wC.heap.size wC wC.drew) := up_dr (Below.refl _ _)
                have UB0 : Hid (Below wC.heap.size wC (wC.alloc (.cells #[.string ⟨#[]⟩, .int .i64 0, .int .i64 0, .string ⟨#[]⟩] 27)).drew) := up_dr (up_al (Below.refl _ _) _)
                have TB0 : Hid ((wC.alloc (.cells #[.string ⟨#[]⟩, .int .i64 0, .int .i64 0, .string ⟨#[]⟩] 27)).drew.heap[wC.heap.size]? = some (.cells #[.string ⟨#[]⟩, .int .i64 0, .int .i64 0, .string ⟨#[]⟩] 27)) := blk_up (blk_new wC _) (up_dr (Below.refl _ _))
                have HRq : Hid (Calls Try.prog 11 #[.agg #[.slice b1 s1.nodes.length d1, .slice b2 m1 d2], .string y.key, .int .i64 y.seq] (wC.alloc (.cells #[.string ⟨#[]⟩, .int .i64 0, .int .i64 0, .string ⟨#[]⟩] 27)).drew fun e w' => e = .returned (.tuple #[.agg #[.string y.key, .int .i64 y.seq, .int .i64 y.kind, .string y.val], .bool true, .int .i64 0]) ∧ w'.cell? ⟨T1, 0, none⟩ = some (.slice b1 s1.nodes.length d1) ∧ w'.cell? ⟨T1, 1, none⟩ = some (.slice b2 m1 d2) ∧ w'.cell? ⟨by1, oy + g * 4, none⟩ = some (.string y.key) ∧ w'.cell? ⟨by1, oy + g * 4 + 1, none⟩ = some (.int .i64 y.seq) ∧ w'.cell? ⟨wC.heap.size, 0, none⟩ = some (.string ⟨#[]⟩) ∧ w'.cell? ⟨wC.heap.size, 1, none⟩ = some (.int .i64 0) ∧ w'.cell? ⟨wC.heap.size, 2, none⟩ = some (.int .i64 0) ∧ w'.cell? ⟨wC.heap.size, 3, none⟩ = some (.string ⟨#[]⟩) ∧ w'.frozen? ⟨wC.heap.size, 0, none⟩ = false ∧ w'.frozen? ⟨wC.heap.size, 1, none⟩ = false ∧ w'.frozen? ⟨wC.heap.size, 2, none⟩ = false ∧ w'.frozen? ⟨wC.heap.size, 3, none⟩ = false ∧ Hid (Below wC.heap.size wC w' ∧ w'.heap[wC.heap.size]? = some (.cells #[.string ⟨#[]⟩, .int .i64 0, .int .i64 0, .string ⟨#[]⟩] 27))) := by
                  refine (HQ.out _ UB0.out).mono ?_
                  rintro e w' ⟨rfl, k0, k1, k2, k3, hu⟩
                  have kb := blk_up TB0.out hu.out.1
                  exact ⟨rfl, k0, k1, k2, k3, blk_cell kb 0 _ rfl, blk_cell kb 1 _ rfl, blk_cell kb 2 _ rfl, blk_cell kb 3 _ rfl, blk_frozen kb 0, blk_frozen kb 1, blk_frozen kb 2, blk_frozen kb 3, hu.out.2, kb⟩
                have HSq : Hid (Calls Try.prog 11 #[.agg #[.slice b1 s1.nodes.length d1, .slice b2 m1 d2], .string y.key, .int .i64 y.seq] wC.drew fun e w' => e = .returned (.tuple #[.agg #[.string y.key, .int .i64 y.seq, .int .i64 y.kind, .string y.val], .bool true, .int .i64 0]) ∧ w'.cell? ⟨T1, 0, none⟩ = some (.slice b1 s1.nodes.length d1) ∧ w'.cell? ⟨T1, 1, none⟩ = some (.slice b2 m1 d2) ∧ w'.cell? ⟨by1, oy + g * 4, none⟩ = some (.string y.key) ∧ w'.cell? ⟨by1, oy + g * 4 + 1, none⟩ = some (.int .i64 y.seq) ∧ Hid (Below wC.heap.size wC w')) := by
                  refine (HQ.out _ UA0.out).mono ?_
                  rintro e w' ⟨rfl, k0, k1, k2, k3, hu⟩
                  exact ⟨rfl, k0, k1, k2, k3, hu.out.2⟩
                have zz : ¬ wC.heap.size = T1 := by have := World.block_lt_of_cell? wC _ p0; simp only at this; omega
                have zy : ¬ T1 = wC.heap.size := fun q => zz q.symm
                have zb : ¬ wC.heap.size = by1 := by have := World.block_lt_of_cell? wC _ y0; simp only at this; omega
                have zc : ¬ by1 = wC.heap.size := fun q => zb q.symm
                have dd0 := fun o => ((up_dr (up_al (Below.refl wC.heap.size wC) o)).cell (World.block_lt_of_cell? _ _ p0)).trans p0
                have dd1 := fun o => ((up_dr (up_al (Below.refl wC.heap.size wC) o)).cell (World.block_lt_of_cell? _ _ p1)).trans p1
                have dd2 := fun o => ((up_dr (up_al (Below.refl wC.heap.size wC) o)).cell (World.block_lt_of_cell? _ _ y0)).trans y0
                have dd3 := fun o => ((up_dr (up_al (Below.refl wC.heap.size wC) o)).cell (World.block_lt_of_cell? _ _ y1)).trans y1
                clear HQ UA0 UB0 TB0
                go_upto_region 38 with fail
                go_cut [17, 18, 19] from 161 to 176 (fun sA sB sC wy => ∃ (T : Nat), sA = .pointer (some ⟨T, 0, none⟩) ∧ sB = .bool true ∧ sC = .int .i64 0 ∧ Hid (wy.heap[T]? = some (.cells #[.string y.key, .int .i64 y.seq, .int .i64 y.kind, .string y.val] 27) ∧ Below wC.heap.size wC wy))
                case first =>
                  go_region_held3 (fun w' => w'.cell? ⟨T1, 0, none⟩ = some (.slice b1 s1.nodes.length d1) ∧ w'.cell? ⟨T1, 1, none⟩ = some (.slice b2 m1 d2) ∧ w'.cell? ⟨by1, oy + g * 4, none⟩ = some (.string y.key) ∧ w'.cell? ⟨by1, oy + g * 4 + 1, none⟩ = some (.int .i64 y.seq)) (first | with_reducible exact ⟨v0, v1, v2, v3⟩ | with_reducible exact ⟨p0, p1, y0, y1⟩ | with_reducible exact ⟨dd0 _, dd1 _, dd2 _, dd3 _⟩ | with_reducible exact ⟨cell_al _ v0, cell_al _ v1, cell_al _ v2, cell_al _ v3⟩ | (simp [go_sem, v0, v1, v2, v3, zz, zy, zb, zc]; done) | (simp [go_sem, p0, p1, y0, y1]; done)) (first
                    | (go_at_call 11; with_reducible refine HSq.out.mono ?_; rintro e w2 ⟨rfl, v0, v1, v2, v3, hs⟩)
                    | (go_at_call 11; with_reducible refine HRq.out.mono ?_; rintro e w2 ⟨rfl, v0, v1, v2, v3, t0, t1, t2, t3, f0, f1, f2, f3, hs⟩))
                  · clear v0 v1 v2 v3
                    go_wp2_with fail
                    go_meet
                    case rel =>
                      refine ⟨_, rfl, rfl, rfl, ?_⟩
                      unfold Hid
                      exact ⟨blk_new _ _, up_al hs.out _⟩
                  · clear v0 v1 v2 v3 t0 t1 t2 t3 f0 f1 f2 f3
                    go_wp2_with fail
                    go_meet
                    case rel =>
                      refine ⟨_, rfl, rfl, rfl, ?_⟩
                      have g2 := set4_grown w2 wC.heap.size (.string y.key) (.int .i64 y.seq) (.int .i64 y.kind) (.string y.val)
                      unfold Hid
                      exact ⟨set4_blk hs.out.2 _ _ _ _, hs.out.1.grown g2 hs.out.1.size (fun k hk => by injection hk with hk; omega)⟩
                case rest =>
                clear HRq HSq dd0 dd1 dd2 dd3 zz zy zb zc p0 p1
                obtain ⟨T, rfl, rfl, rfl, HT⟩ := hcut
                have lt : ∀ {bb : Addr} {q : Value}, wC.cell? bb = some q → wc.cell? bb = some q := fun hq => (HT.out.2.cell (World.block_lt_of_cell? wC _ hq)).trans hq
                have Y0 := cell_up (lt y0)
                have Y1 := cell_up (lt y1)
                have Y2 := cell_up (lt y2)
                have Y3 := cell_up (lt y3)
                have X0 := cell_up (show wc.cell? ⟨T, 0, none⟩ = some (.string y.key) from blk_cell HT.out.1 0 _ rfl)
                have X1 := cell_up (show wc.cell? ⟨T, 1, none⟩ = some (.int .i64 y.seq) from blk_cell HT.out.1 1 _ rfl)
                have X2 := cell_up (show wc.cell? ⟨T, 2, none⟩ = some (.int .i64 y.kind) from blk_cell HT.out.1 2 _ rfl)
                have X3 := cell_up (show wc.cell? ⟨T, 3, none⟩ = some (.string y.val) from blk_cell HT.out.1 3 _ rfl)
                clear lt y0 y1 y2 y3
                go_upto_region 39 with fail
                refine wp_region_up (by kernel_rfl) (by kernel_rfl) ?_
                repeat (quiet_step ((go_at_call 16; refine calls_up ((num_any 0 _).mono (fun _ _ hh => ⟨hh.1, by rw [hh.2]; exact Below.refl _ _⟩)))))
                refine wpQuiet_nil ?_
                intro _ hw'
                obtain ⟨p, hw''⟩ := hw'
                subst hw''
                have HBP : Hid (Below wB.heap.size wB p.val) := up_trans HBG.out (up_trans HT.out.2 p.up)
                go_wp2_with fail
                exact ⟨⟨g + 1, by omega, by go_num, HBP⟩, by simp [intOf]; omega⟩
              · have hgl' : ¬ (g : Int) < (n1 : Int) := by omega
                have HUE : Hid (Below w.heap.size w wC) := up_trans HOA.out.2.2.2.1 UAC.out
                go_wp2_with fail
                go_ret
                exact ⟨rfl, HUE.out⟩
end Go.Proofs.Ytmiokopnhkojoaa
