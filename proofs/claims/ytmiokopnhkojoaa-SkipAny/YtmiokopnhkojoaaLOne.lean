/- SkipOne, walked. -/
import Derived.Test.YtmiokopnhkojoaaLAlive
import Derived.Test.YtmiokopnhkojoaaPGet
import Derived.Test.YtmiokopnhkojoaaLEnts
import Derived.Deep.CutRange
namespace Go.Proofs.Ytmiokopnhkojoaa
open Go.RowKit
set_option linter.unusedVariables false
set_option linter.unusedSimpArgs false

/-- The error of Put to a list that may be and is not full, whatever the height (1 to 8). -/
def codeQ (es : List En) (x : En) : Int := if mayE x = false then 1 else if es.any (fun e => twin e x) = true then 6 else 0
theorem errP_good {s : Sk} {x : En} {h : Int} (g : Good s) (h1 : 1 ≤ h) (h8 : h ≤ 8) (hl : s.es.length < 4096) : errP s x h = codeQ s.es x := by
  have hr : reachP h = true := by simp [reachP]; omega
  unfold errP codeQ
  rw [(checkS_iff s).2 g, hr]
  rw [Sk.es_len] at hl
  have : ¬ s.nodes.length = 4096 := by omega
  simp [this]
/-- The height that a statement makes of a number. -/
def hOf (n : Int) : Int := 1 + (n.tmod 8 + 8).tmod 8
theorem hOf_range (n : Int) : 1 ≤ hOf n ∧ hOf n ≤ 8 ∧ -7 ≤ n.tmod 8 ∧ n.tmod 8 ≤ 7 ∧ 0 ≤ (n.tmod 8 + 8).tmod 8 ∧ (n.tmod 8 + 8).tmod 8 ≤ 7 := by
  have h1 : -7 ≤ n.tmod 8 ∧ n.tmod 8 ≤ 7 := by
    rw [Int.tmod_eq_emod]
    split <;> omega
  have h2 : 0 ≤ (n.tmod 8 + 8).tmod 8 ∧ (n.tmod 8 + 8).tmod 8 ≤ 7 := by
    rw [Int.tmod_eq_emod_of_nonneg (by omega)]
    omega
  unfold hOf
  omega
theorem hOf_alt (n : Int) : hOf n = 1 + n.tmod 8 % 8 := by
  have := hOf_range n
  unfold hOf at *
  rw [Int.tmod_eq_emod_of_nonneg (by omega)]
  omega
theorem getV_es {s t : Sk} (gs : Good s) (gt : Good t) (h : s.es = t.es) (key : ByteArray) (seq : Int) : getV s key seq = getV t key seq := by
  unfold getV
  rw [(checkS_iff s).2 gs, (checkS_iff t).2 gt, all_es, all_es, h]
theorem getV_zero {s : Sk} (gs : Good s) (key : ByteArray) (seq : Int) : (getV s key seq).2.2 = 0 := by
  unfold getV
  rw [(checkS_iff s).2 gs]
  cases firstF s.all key seq <;> rfl
theorem all_len (s : Sk) : s.all.length = s.nodes.length := by
  unfold Sk.all Sk.ord
  rw [List.length_map, orderF_len]

set_option maxHeartbeats 8000000 in
set_option maxRecDepth 100000 in
theorem one_walk (l : List En) (ha hb : List Int) (al : Option Addr) (cl : Nat) (aa : Option Addr) (ca : Nat) (ab : Option Addr) (cb : Nat) (key : ByteArray) (seq : Int) (w : World) (hl : EntsR w (.slice al l.length cl) l) (hha : IntsR w (.slice aa ha.length ca) ha) (hhb : IntsR w (.slice ab hb.length cb) hb) :
    Calls Try.prog 6 #[.slice al l.length cl, .slice aa ha.length ca, .slice ab hb.length cb, .string key, .int .i64 seq] w fun e w' => e = .returned (.bool true) ∧ Below w.heap.size w w' := by
  have HLL : Hid (EntsR w (.slice al l.length cl) l) := hl
  have HHA : Hid (IntsR w (.slice aa ha.length ca) ha) := hha
  have HHB : Hid (IntsR w (.slice ab hb.length cb) hb) := hhb
  have h63 : (l.length : Int) ≤ 9223372036854775807 := by obtain ⟨_, _, e, h4, h5⟩ := hl.len; unfold maxLen at h5; omega
  have h64 : (ha.length : Int) ≤ 9223372036854775807 := by obtain ⟨_, _, e, h4, h5⟩ := hha.len; unfold maxLen at h5; omega
  have h65 : (hb.length : Int) ≤ 9223372036854775807 := by obtain ⟨_, _, e, h4, h5⟩ := hhb.len; unfold maxLen at h5; omega
  clear hl hha hhb
  have HAL := alive_any w
  go_enter Try.func6, Try.ntmps6
  go_wp2_with fail
  refine HAL.mono ?_
  rintro e w0 ⟨rfl, U0⟩
  clear HAL
  go_wp2_with fail
  refine (new_any w0).mono ?_
  rintro e w1 ⟨a1, c1, a2, c2, rfl, O1, U1⟩
  go_wp2_with fail
  refine (new_any w1).mono ?_
  rintro e w2 ⟨a3, c3, a4, c4, rfl, O2, U2⟩
  obtain ⟨wx, hwx⟩ : ∃ wx, wx = (w2.alloc (.cells #[.slice a1 0 c1, .slice a2 8 c2] 30)).alloc (.cells #[.slice a3 0 c3, .slice a4 8 c4] 30) := ⟨_, rfl⟩
  have HWX : Hid ((w2.alloc (.cells #[.slice a1 0 c1, .slice a2 8 c2] 30)).alloc (.cells #[.slice a3 0 c3, .slice a4 8 c4] 30) = wx) := hwx.symm
  have HS : Hid (OwnSk wx w.heap.size 62 (.slice a1 0 c1) (.slice a2 8 c2) emptyS [] ∧ OwnSk wx w.heap.size 62 (.slice a3 0 c3) (.slice a4 8 c4) emptyS [] ∧ wx.heap[w2.heap.size]? = some (.cells #[.slice a1 0 c1, .slice a2 8 c2] 30) ∧ wx.heap[w2.heap.size + 1]? = some (.cells #[.slice a3 0 c3, .slice a4 8 c4] 30) ∧ Below w.heap.size w wx) := by
    have u2 : Below w2.heap.size w2 wx := by rw [hwx]; exact up_al (up_al (Below.refl _ _) _) _
    have b1 := blk_new (w2.alloc (.cells #[.slice a1 0 c1, .slice a2 8 c2] 30)) (.cells #[.slice a3 0 c3, .slice a4 8 c4] 30)
    have e : (w2.alloc (.cells #[.slice a1 0 c1, .slice a2 8 c2] 30)).heap.size = w2.heap.size + 1 := by simp
    rw [e, ← hwx] at b1
    exact ⟨((O1.out.mono U0.out.size).up U2.out).up u2, (O2.out.mono (up_trans U0.out U1.out).size).up u2, by rw [hwx]; exact blk_up (blk_new w2 _) (up_alloc _ _), b1, up_trans U0.out (up_trans U1.out (up_trans U2.out u2))⟩
  have HSZ : Hid (w.heap.size ≤ w2.heap.size) := (up_trans U0.out (up_trans U1.out U2.out)).size
  clear hwx O1 O2 U0 U1 U2
  go_wp2_with fail
  rw [HWX.out]
  clear HWX
  generalize hT1 : w2.heap.size = T1 at *
  clear hT1
  go_loopw [13] (fun q wr => ∃ (i : Nat) (s1 s2 : Sk) (es1 es2 : List (En × Value)) (b1 b2 b3 b4 : Option Addr) (d1 d2 d3 d4 : Nat), i ≤ l.length ∧ i ≤ 30 ∧ q = .int .i64 (i : Int) ∧ Hid (Good s1 ∧ Good s2 ∧ s1.es = s2.es ∧ s1.es.length ≤ i ∧ OwnSk wr w.heap.size 62 (.slice b1 s1.nodes.length d1) (.slice b2 s1.head.length d2) s1 es1 ∧ OwnSk wr w.heap.size 62 (.slice b3 s2.nodes.length d3) (.slice b4 s2.head.length d4) s2 es2 ∧ wr.heap[T1]? = some (.cells #[.slice b1 s1.nodes.length d1, .slice b2 s1.head.length d2] 30) ∧ wr.heap[T1 + 1]? = some (.cells #[.slice b3 s2.nodes.length d3, .slice b4 s2.head.length d4] 30) ∧ Below w.heap.size w wr)) (fun q _ => l.length - (intOf q).toNat)
  case atStart => exact ⟨0, emptyS, emptyS, [], [], a1, a2, a3, a4, c1, c2, c3, c4, by omega, by omega, rfl, emptyS_good, emptyS_good, rfl, by simp [emptyS, Sk.es], HS.out.1, HS.out.2.1, HS.out.2.2.1, HS.out.2.2.2.1, HS.out.2.2.2.2⟩
  case round =>
    clear HS
    obtain ⟨i, s1, s2, es1, es2, b1, b2, b3, b4, d1, d2, d3, d4, hi, hi30, rfl, HO⟩ := hrel
    by_cases hgo : i < l.length ∧ i < 30
    · have hlt' : (i : Int) < (l.length : Int) := by omega
      have hlt30 : (i : Int) < 30 := by omega
      obtain ⟨b, off, cap, x, e, hx, x0, x1, x2, x3⟩ := (HLL.out.up HO.out.2.2.2.2.2.2.2.2).at i hgo.1
      simp only [Value.slice.injEq] at e
      obtain ⟨rfl, _, rfl⟩ := e
      clear hx
      -- the heights
      obtain ⟨H1, hH1, r1⟩ : ∃ H1 : Int, (1 ≤ H1 ∧ H1 ≤ 8) ∧ ((¬ (i : Int) < (ha.length : Int) ∧ H1 = 1) ∨ ((i : Int) < (ha.length : Int) ∧ ∃ n bb oo, aa = some ⟨bb, oo, none⟩ ∧ wr.cell? ⟨bb, oo + i, none⟩ = some (.int .i64 n) ∧ H1 = hOf n)) := by
        by_cases q : i < ha.length
        · obtain ⟨bb, oo, cc, n, e, _, hc⟩ := (HHA.out.up HO.out.2.2.2.2.2.2.2.2).at i q
          simp only [Value.slice.injEq] at e
          exact ⟨hOf n, ⟨(hOf_range n).1, (hOf_range n).2.1⟩, .inr ⟨by omega, n, bb, oo, e.1, hc, rfl⟩⟩
        · exact ⟨1, by omega, .inl ⟨by omega, rfl⟩⟩
      obtain ⟨H2, hH2, r2⟩ : ∃ H2 : Int, (1 ≤ H2 ∧ H2 ≤ 8) ∧ ((¬ (i : Int) < (hb.length : Int) ∧ H2 = 1) ∨ ((i : Int) < (hb.length : Int) ∧ ∃ n bb oo, ab = some ⟨bb, oo, none⟩ ∧ wr.cell? ⟨bb, oo + i, none⟩ = some (.int .i64 n) ∧ H2 = hOf n)) := by
        by_cases q : i < hb.length
        · obtain ⟨bb, oo, cc, n, e, _, hc⟩ := (HHB.out.up HO.out.2.2.2.2.2.2.2.2).at i q
          simp only [Value.slice.injEq] at e
          exact ⟨hOf n, ⟨(hOf_range n).1, (hOf_range n).2.1⟩, .inr ⟨by omega, n, bb, oo, e.1, hc, rfl⟩⟩
        · exact ⟨1, by omega, .inl ⟨by omega, rfl⟩⟩
      have HR1 : Hid ((¬ (i : Int) < (ha.length : Int) ∧ H1 = 1) ∨ ((i : Int) < (ha.length : Int) ∧ ∃ n bb oo, aa = some ⟨bb, oo, none⟩ ∧ wr.cell? ⟨bb, oo + i, none⟩ = some (.int .i64 n) ∧ H1 = hOf n)) := r1
      have HR2 : Hid ((¬ (i : Int) < (hb.length : Int) ∧ H2 = 1) ∨ ((i : Int) < (hb.length : Int) ∧ ∃ n bb oo, ab = some ⟨bb, oo, none⟩ ∧ wr.cell? ⟨bb, oo + i, none⟩ = some (.int .i64 n) ∧ H2 = hOf n)) := r2
      have HH1 : Hid (1 ≤ H1 ∧ H1 ≤ 8) := hH1
      have HH2 : Hid (1 ≤ H2 ∧ H2 ≤ 8) := hH2
      clear r1 r2 hH1 hH2
      have HCODEa : Hid (errP s1 x H1 = codeQ s1.es x) := errP_good HO.out.1 HH1.out.1 HH1.out.2 (by have := HO.out.2.2.2.1; omega)
      have HCODEb : Hid (errP s2 x H2 = codeQ s1.es x) := by
        have := errP_good (x := x) HO.out.2.1 HH2.out.1 HH2.out.2 (by have := HO.out.2.2.2.1; rw [← HO.out.2.2.1]; omega)
        rw [← HO.out.2.2.1] at this
        exact this
      generalize hcode : codeQ s1.es x = CODE at *
      clear hcode
      have p0 : wr.cell? ⟨T1, 0, none⟩ = some (.slice b1 s1.nodes.length d1) := blk_cell HO.out.2.2.2.2.2.2.1 0 _ rfl
      have p1 : wr.cell? ⟨T1, 1, none⟩ = some (.slice b2 s1.head.length d2) := blk_cell HO.out.2.2.2.2.2.2.1 1 _ rfl
      generalize hm1 : s1.head.length = m1 at *
      generalize hm2 : s2.head.length = m2 at *
      have HM : Hid (s1.head.length = m1 ∧ s2.head.length = m2) := ⟨hm1, hm2⟩
      clear hm1 hm2
      -- the walk to the first Put, by the heights' ways
      go_upto_if 47 with fail
      go_cut [14] from 44 to 55 (fun sA wy => sA = .int .i64 H1 ∧ wy = wr)
      case first =>
        rcases HR1.out with ⟨q, q1⟩ | ⟨q, n, bb, oo, q1, q2, q3⟩
        · subst q1
          go_wp2_with fail
          go_meet
          case rel => exact ⟨rfl, rfl⟩
        · subst q1
          obtain ⟨_, _, g1, g2, g3, g4⟩ := hOf_range n
          have HQ3 : Hid (H1 = hOf n) := q3
          have m1 : IntKind.i64.wrap (n.tmod 8) = n.tmod 8 := by simp [IntKind.wrap, IntKind.bits, IntKind.signed]; omega
          have m2 : IntKind.i64.wrap (n.tmod 8 + 8) = n.tmod 8 + 8 := by simp [IntKind.wrap, IntKind.bits, IntKind.signed]; omega
          have m3 : IntKind.i64.wrap ((n.tmod 8 + 8).tmod 8) = (n.tmod 8 + 8).tmod 8 := by simp [IntKind.wrap, IntKind.bits, IntKind.signed]; omega
          have m4 : IntKind.i64.wrap (1 + (n.tmod 8 + 8).tmod 8) = 1 + (n.tmod 8 + 8).tmod 8 := by simp [IntKind.wrap, IntKind.bits, IntKind.signed]; omega
          clear q3
          go_wp2_with fail
          go_meet
          case rel => exact ⟨by rw [HQ3.out, hOf_alt], rfl⟩
      case rest =>
      obtain ⟨rfl, hwc⟩ := hcut
      rw [hwc]
      clear hwc wc
      go_upto_if 59 with fail
      go_cut [15] from 56 to 67 (fun sA wy => sA = .int .i64 H2 ∧ wy = wr)
      case first =>
        rcases HR2.out with ⟨q, q1⟩ | ⟨q, n, bb, oo, q1, q2, q3⟩
        · subst q1
          go_wp2_with fail
          go_meet
          case rel => exact ⟨rfl, rfl⟩
        · subst q1
          obtain ⟨_, _, g1, g2, g3, g4⟩ := hOf_range n
          have HQ3 : Hid (H2 = hOf n) := q3
          have m1 : IntKind.i64.wrap (n.tmod 8) = n.tmod 8 := by simp [IntKind.wrap, IntKind.bits, IntKind.signed]; omega
          have m2 : IntKind.i64.wrap (n.tmod 8 + 8) = n.tmod 8 + 8 := by simp [IntKind.wrap, IntKind.bits, IntKind.signed]; omega
          have m3 : IntKind.i64.wrap ((n.tmod 8 + 8).tmod 8) = (n.tmod 8 + 8).tmod 8 := by simp [IntKind.wrap, IntKind.bits, IntKind.signed]; omega
          have m4 : IntKind.i64.wrap (1 + (n.tmod 8 + 8).tmod 8) = 1 + (n.tmod 8 + 8).tmod 8 := by simp [IntKind.wrap, IntKind.bits, IntKind.signed]; omega
          clear q3
          go_wp2_with fail
          go_meet
          case rel => exact ⟨by rw [HQ3.out, hOf_alt], rfl⟩
      case rest =>
      obtain ⟨rfl, hwc⟩ := hcut
      rw [hwc]
      clear hwc wc
      clear HR1 HR2
      have HQa : Hid (∀ X, Below wr.heap.size wr X → Calls Try.prog 9 #[.agg #[.slice b1 s1.nodes.length d1, .slice b2 m1 d2], .agg #[.string x.key, .int .i64 x.seq, .int .i64 x.kind, .string x.val], .int .i64 H1] X fun e w' => ∃ a n c a2 n2 c2, e = .returned (.tuple #[.agg #[.slice a n c, .slice a2 n2 c2], .int .i64 CODE]) ∧ w'.cell? ⟨T1, 0, none⟩ = some (.slice b1 s1.nodes.length d1) ∧ w'.cell? ⟨T1, 1, none⟩ = some (.slice b2 m1 d2) ∧ w'.cell? ⟨b, off + i * 4, none⟩ = some (.string x.key) ∧ w'.cell? ⟨b, off + i * 4 + 1, none⟩ = some (.int .i64 x.seq) ∧ w'.cell? ⟨b, off + i * 4 + 2, none⟩ = some (.int .i64 x.kind) ∧ w'.cell? ⟨b, off + i * 4 + 3, none⟩ = some (.string x.val) ∧ Hid (∃ t es', OwnSk w' wr.heap.size 62 (.slice a n c) (.slice a2 n2 c2) t es' ∧ IsPut s1 x H1 t ∧ n = t.nodes.length) ∧ Hid (Below X.heap.size X w' ∧ Below wr.heap.size wr w')) := by
        intro X hX
        have hp := put_any s1 es1 (.slice b1 s1.nodes.length d1) (.slice b2 m1 d2) x H1 X ((fun X hX => HO.out.2.2.2.2.1.read.up hX) X hX)
        rw [HCODEa.out] at hp
        refine hp.mono ?_
        rintro e w' ⟨vN', vH', t, es', rfl, ho, hu⟩
        obtain ⟨⟨a, c, rfl⟩, ⟨a2, c2, rfl⟩⟩ := ho.out.1.read.form
        have hb := up_trans hX hu.out
        have lt : ∀ {bb : Addr} {q : Value}, wr.cell? bb = some q → w'.cell? bb = some q := fun hq => (hb.cell (World.block_lt_of_cell? wr _ hq)).trans hq
        exact ⟨a, _, c, a2, _, c2, rfl, lt p0, lt p1, lt x0, lt x1, lt x2, lt x3, ⟨t, es', ho.out.1.mono hX.size, ho.out.2, rfl⟩, hu.out, hb⟩
      have UAa : Hid (Below wr.heap.size wr wr.drew) := up_dr (Below.refl _ _)
      have UBa : Hid (Below wr.heap.size wr (wr.alloc (.cells #[.slice none 0 0, .slice none 0 0] 30)).drew) := up_dr (up_al (Below.refl _ _) _)
      have TBa : Hid ((wr.alloc (.cells #[.slice none 0 0, .slice none 0 0] 30)).drew.heap[wr.heap.size]? = some (.cells #[.slice none 0 0, .slice none 0 0] 30)) := blk_up (blk_new wr _) (up_dr (Below.refl _ _))
      have HRa : Hid (Calls Try.prog 9 #[.agg #[.slice b1 s1.nodes.length d1, .slice b2 m1 d2], .agg #[.string x.key, .int .i64 x.seq, .int .i64 x.kind, .string x.val], .int .i64 H1] (wr.alloc (.cells #[.slice none 0 0, .slice none 0 0] 30)).drew fun e w' => ∃ a n c a2 n2 c2, e = .returned (.tuple #[.agg #[.slice a n c, .slice a2 n2 c2], .int .i64 CODE]) ∧ w'.cell? ⟨T1, 0, none⟩ = some (.slice b1 s1.nodes.length d1) ∧ w'.cell? ⟨T1, 1, none⟩ = some (.slice b2 m1 d2) ∧ w'.cell? ⟨b, off + i * 4, none⟩ = some (.string x.key) ∧ w'.cell? ⟨b, off + i * 4 + 1, none⟩ = some (.int .i64 x.seq) ∧ w'.cell? ⟨b, off + i * 4 + 2, none⟩ = some (.int .i64 x.kind) ∧ w'.cell? ⟨b, off + i * 4 + 3, none⟩ = some (.string x.val) ∧ w'.cell? ⟨wr.heap.size, 0, none⟩ = some (.slice none 0 0) ∧ w'.cell? ⟨wr.heap.size, 1, none⟩ = some (.slice none 0 0) ∧ w'.frozen? ⟨wr.heap.size, 0, none⟩ = false ∧ w'.frozen? ⟨wr.heap.size, 1, none⟩ = false ∧ Hid ((∃ t es', OwnSk w' wr.heap.size 62 (.slice a n c) (.slice a2 n2 c2) t es' ∧ IsPut s1 x H1 t ∧ n = t.nodes.length) ∧ Below wr.heap.size wr w' ∧ w'.heap[wr.heap.size]? = some (.cells #[.slice none 0 0, .slice none 0 0] 30))) := by
        refine (HQa.out _ UBa.out).mono ?_
        rintro e w' ⟨a, n, c, a2, n2, c2, rfl, k0, k1, k2, k3, k4, k5, ho, hu⟩
        have kb := blk_up TBa.out hu.out.1
        exact ⟨a, n, c, a2, n2, c2, rfl, k0, k1, k2, k3, k4, k5, blk_cell kb 0 _ rfl, blk_cell kb 1 _ rfl, blk_frozen kb 0, blk_frozen kb 1, ho.out, hu.out.2, kb⟩
      have HSa : Hid (Calls Try.prog 9 #[.agg #[.slice b1 s1.nodes.length d1, .slice b2 m1 d2], .agg #[.string x.key, .int .i64 x.seq, .int .i64 x.kind, .string x.val], .int .i64 H1] wr.drew fun e w' => ∃ a n c a2 n2 c2, e = .returned (.tuple #[.agg #[.slice a n c, .slice a2 n2 c2], .int .i64 CODE]) ∧ w'.cell? ⟨T1, 0, none⟩ = some (.slice b1 s1.nodes.length d1) ∧ w'.cell? ⟨T1, 1, none⟩ = some (.slice b2 m1 d2) ∧ w'.cell? ⟨b, off + i * 4, none⟩ = some (.string x.key) ∧ w'.cell? ⟨b, off + i * 4 + 1, none⟩ = some (.int .i64 x.seq) ∧ w'.cell? ⟨b, off + i * 4 + 2, none⟩ = some (.int .i64 x.kind) ∧ w'.cell? ⟨b, off + i * 4 + 3, none⟩ = some (.string x.val) ∧ Hid ((∃ t es', OwnSk w' wr.heap.size 62 (.slice a n c) (.slice a2 n2 c2) t es' ∧ IsPut s1 x H1 t ∧ n = t.nodes.length) ∧ Below wr.heap.size wr w')) := by
        refine (HQa.out _ UAa.out).mono ?_
        rintro e w' ⟨a, n, c, a2, n2, c2, rfl, k0, k1, k2, k3, k4, k5, ho, hu⟩
        exact ⟨a, n, c, a2, n2, c2, rfl, k0, k1, k2, k3, k4, k5, ho.out, hu.out.2⟩
      have zza : ¬ wr.heap.size = T1 := by have := World.block_lt_of_cell? wr _ p0; simp only at this; omega
      have zya : ¬ T1 = wr.heap.size := fun q => zza q.symm
      have zba : ¬ wr.heap.size = b := by have := World.block_lt_of_cell? wr _ x0; simp only at this; omega
      have zca : ¬ b = wr.heap.size := fun q => zba q.symm
      have dd0 := fun o => ((up_dr (up_al (Below.refl wr.heap.size wr) o)).cell (World.block_lt_of_cell? _ _ p0)).trans p0
      have dd1 := fun o => ((up_dr (up_al (Below.refl wr.heap.size wr) o)).cell (World.block_lt_of_cell? _ _ p1)).trans p1
      have dd2 := fun o => ((up_dr (up_al (Below.refl wr.heap.size wr) o)).cell (World.block_lt_of_cell? _ _ x0)).trans x0
      have dd3 := fun o => ((up_dr (up_al (Below.refl wr.heap.size wr) o)).cell (World.block_lt_of_cell? _ _ x1)).trans x1
      have dd4 := fun o => ((up_dr (up_al (Below.refl wr.heap.size wr) o)).cell (World.block_lt_of_cell? _ _ x2)).trans x2
      have dd5 := fun o => ((up_dr (up_al (Below.refl wr.heap.size wr) o)).cell (World.block_lt_of_cell? _ _ x3)).trans x3
      clear HQa UAa UBa TBa
      go_upto_region 12 with fail
      go_cut [16, 17] from 68 to 77 (fun sA sB wy => ∃ (T : Nat) (t : Sk) (es' : List (En × Value)) (a : Option Addr) (c : Nat) (a2 : Option Addr) (n2 c2 : Nat), sA = .pointer (some ⟨T, 0, none⟩) ∧ sB = .int .i64 CODE ∧ Hid (wy.heap[T]? = some (.cells #[.slice a t.nodes.length c, .slice a2 n2 c2] 30) ∧ OwnSk wy wr.heap.size 62 (.slice a t.nodes.length c) (.slice a2 n2 c2) t es' ∧ IsPut s1 x H1 t ∧ Below wr.heap.size wr wy ∧ wr.heap.size ≤ T))
      case first =>
        go_region_held3 (fun w' => w'.cell? ⟨T1, 0, none⟩ = some (.slice b1 s1.nodes.length d1) ∧ w'.cell? ⟨T1, 1, none⟩ = some (.slice b2 m1 d2) ∧ w'.cell? ⟨b, off + i * 4, none⟩ = some (.string x.key) ∧ w'.cell? ⟨b, off + i * 4 + 1, none⟩ = some (.int .i64 x.seq) ∧ w'.cell? ⟨b, off + i * 4 + 2, none⟩ = some (.int .i64 x.kind) ∧ w'.cell? ⟨b, off + i * 4 + 3, none⟩ = some (.string x.val)) (first | with_reducible exact ⟨y0, y1, y2, y3, y4, y5⟩ | with_reducible exact ⟨p0, p1, x0, x1, x2, x3⟩ | with_reducible exact ⟨dd0 _, dd1 _, dd2 _, dd3 _, dd4 _, dd5 _⟩ | with_reducible exact ⟨cell_al _ y0, cell_al _ y1, cell_al _ y2, cell_al _ y3, cell_al _ y4, cell_al _ y5⟩ | (simp [go_sem, y0, y1, y2, y3, y4, y5, zza, zya, zba, zca]; done) | (simp [go_sem, p0, p1, x0, x1, x2, x3]; done)) (first
          | (go_at_call 9; with_reducible refine HSa.out.mono ?_; rintro e w2 ⟨a, n, c, a2, n2, c2, rfl, y0, y1, y2, y3, y4, y5, hs⟩)
          | (go_at_call 9; with_reducible refine HRa.out.mono ?_; rintro e w2 ⟨a, n, c, a2, n2, c2, rfl, y0, y1, y2, y3, y4, y5, t0, t1, f0, f1, hs⟩))
        · obtain ⟨⟨t, es', ho, hp, rfl⟩, hb⟩ := hs.out
          have HF : Hid (OwnSk w2 wr.heap.size 62 (.slice a t.nodes.length c) (.slice a2 n2 c2) t es' ∧ IsPut s1 x H1 t ∧ Below wr.heap.size wr w2) := ⟨ho, hp, hb⟩
          clear ho hp hb hs y0 y1 y2 y3 y4 y5
          go_wp2_with fail
          go_meet
          case rel =>
            refine ⟨_, t, es', a, c, a2, n2, c2, rfl, rfl, ?_⟩
            unfold Hid
            exact ⟨blk_new _ _, HF.out.1.up (up_alloc _ _), HF.out.2.1, up_al HF.out.2.2 _, HF.out.2.2.size⟩
        · obtain ⟨⟨t, es', ho, hp, rfl⟩, hb, hT⟩ := hs.out
          have HF : Hid (OwnSk w2 wr.heap.size 62 (.slice a t.nodes.length c) (.slice a2 n2 c2) t es' ∧ IsPut s1 x H1 t ∧ Below wr.heap.size wr w2 ∧ w2.heap[wr.heap.size]? = some (.cells #[.slice none 0 0, .slice none 0 0] 30)) := ⟨ho, hp, hb, hT⟩
          clear ho hp hb hT hs y0 y1 y2 y3 y4 y5 t0 t1 f0 f1
          go_wp2_with fail
          go_meet
          case rel =>
            refine ⟨_, t, es', a, c, a2, n2, c2, rfl, rfl, ?_⟩
            have g2 := set2_grown w2 wr.heap.size (.slice a t.nodes.length c) (.slice a2 n2 c2)
            unfold Hid
            exact ⟨set2_blk HF.out.2.2.2 _ _, HF.out.1.block HF.out.2.2.2 (by decide) (by decide) g2, HF.out.2.1, HF.out.2.2.1.grown g2 HF.out.2.2.1.size (fun k hk => by injection hk with hk; omega), Nat.le_refl _⟩
      case rest =>
      clear HRa HSa dd0 dd1 dd2 dd3 dd4 dd5 zza zya zba zca

      obtain ⟨T2, u1, eu1, f1, g1, f2, fn2, g2, rfl, rfl, HU1⟩ := hcut
      obtain ⟨wk, hwk⟩ : ∃ wk, wk = wc := ⟨wc, rfl⟩
      subst hwk
      clear p0 p1
      have HO1 : Hid (OwnSk wk w.heap.size 62 (.slice b3 s2.nodes.length d3) (.slice b4 m2 d4) s2 es2 ∧ OwnSk wk w.heap.size 62 (.slice b1 s1.nodes.length d1) (.slice b2 m1 d2) s1 es1 ∧ wk.heap[T1]? = some (.cells #[.slice b1 s1.nodes.length d1, .slice b2 m1 d2] 30) ∧ wk.heap[T1 + 1]? = some (.cells #[.slice b3 s2.nodes.length d3, .slice b4 m2 d4] 30) ∧ Below w.heap.size w wk) := by
        have u := HU1.out.2.2.2.1
        exact ⟨HO.out.2.2.2.2.2.1.up u, HO.out.2.2.2.2.1.up u, blk_up HO.out.2.2.2.2.2.2.1 u, blk_up HO.out.2.2.2.2.2.2.2.1 u, up_trans HO.out.2.2.2.2.2.2.2.2 u⟩
      have HTL : Hid (T1 + 1 < wr.heap.size) := blk_lt HO.out.2.2.2.2.2.2.2.1
      have lt0 : ∀ {bb : Addr} {q : Value}, wr.cell? bb = some q → wk.cell? bb = some q := fun hq => (HU1.out.2.2.2.1.cell (World.block_lt_of_cell? wr _ hq)).trans hq
      have X0 := lt0 x0
      have X1 := lt0 x1
      have X2 := lt0 x2
      have X3 := lt0 x3
      clear lt0 x0 x1 x2 x3
      have p0 : wk.cell? ⟨T1 + 1, 0, none⟩ = some (.slice b3 s2.nodes.length d3) := blk_cell HO1.out.2.2.2.1 0 _ rfl
      have p1 : wk.cell? ⟨T1 + 1, 1, none⟩ = some (.slice b4 m2 d4) := blk_cell HO1.out.2.2.2.1 1 _ rfl
      have HQb : Hid (∀ X, Below wk.heap.size wk X → Calls Try.prog 9 #[.agg #[.slice b3 s2.nodes.length d3, .slice b4 m2 d4], .agg #[.string x.key, .int .i64 x.seq, .int .i64 x.kind, .string x.val], .int .i64 H2] X fun e w' => ∃ a n c a2 n2 c2, e = .returned (.tuple #[.agg #[.slice a n c, .slice a2 n2 c2], .int .i64 CODE]) ∧ w'.cell? ⟨T1 + 1, 0, none⟩ = some (.slice b3 s2.nodes.length d3) ∧ w'.cell? ⟨T1 + 1, 1, none⟩ = some (.slice b4 m2 d4) ∧ w'.cell? ⟨b, off + i * 4, none⟩ = some (.string x.key) ∧ w'.cell? ⟨b, off + i * 4 + 1, none⟩ = some (.int .i64 x.seq) ∧ w'.cell? ⟨b, off + i * 4 + 2, none⟩ = some (.int .i64 x.kind) ∧ w'.cell? ⟨b, off + i * 4 + 3, none⟩ = some (.string x.val) ∧ Hid (∃ t es', OwnSk w' wk.heap.size 62 (.slice a n c) (.slice a2 n2 c2) t es' ∧ IsPut s2 x H2 t ∧ n = t.nodes.length) ∧ Hid (Below X.heap.size X w' ∧ Below wk.heap.size wk w')) := by
        intro X hX
        have hp := put_any s2 es2 (.slice b3 s2.nodes.length d3) (.slice b4 m2 d4) x H2 X ((fun X hX => HO1.out.1.read.up hX) X hX)
        rw [HCODEb.out] at hp
        refine hp.mono ?_
        rintro e w' ⟨vN', vH', t, es', rfl, ho, hu⟩
        obtain ⟨⟨a, c, rfl⟩, ⟨a2, c2, rfl⟩⟩ := ho.out.1.read.form
        have hb := up_trans hX hu.out
        have lt : ∀ {bb : Addr} {q : Value}, wk.cell? bb = some q → w'.cell? bb = some q := fun hq => (hb.cell (World.block_lt_of_cell? wk _ hq)).trans hq
        exact ⟨a, _, c, a2, _, c2, rfl, lt p0, lt p1, lt X0, lt X1, lt X2, lt X3, ⟨t, es', ho.out.1.mono hX.size, ho.out.2, rfl⟩, hu.out, hb⟩
      have UAb : Hid (Below wk.heap.size wk wk.drew) := up_dr (Below.refl _ _)
      have UBb : Hid (Below wk.heap.size wk (wk.alloc (.cells #[.slice none 0 0, .slice none 0 0] 30)).drew) := up_dr (up_al (Below.refl _ _) _)
      have TBb : Hid ((wk.alloc (.cells #[.slice none 0 0, .slice none 0 0] 30)).drew.heap[wk.heap.size]? = some (.cells #[.slice none 0 0, .slice none 0 0] 30)) := blk_up (blk_new wk _) (up_dr (Below.refl _ _))
      have HRb : Hid (Calls Try.prog 9 #[.agg #[.slice b3 s2.nodes.length d3, .slice b4 m2 d4], .agg #[.string x.key, .int .i64 x.seq, .int .i64 x.kind, .string x.val], .int .i64 H2] (wk.alloc (.cells #[.slice none 0 0, .slice none 0 0] 30)).drew fun e w' => ∃ a n c a2 n2 c2, e = .returned (.tuple #[.agg #[.slice a n c, .slice a2 n2 c2], .int .i64 CODE]) ∧ w'.cell? ⟨T1 + 1, 0, none⟩ = some (.slice b3 s2.nodes.length d3) ∧ w'.cell? ⟨T1 + 1, 1, none⟩ = some (.slice b4 m2 d4) ∧ w'.cell? ⟨b, off + i * 4, none⟩ = some (.string x.key) ∧ w'.cell? ⟨b, off + i * 4 + 1, none⟩ = some (.int .i64 x.seq) ∧ w'.cell? ⟨b, off + i * 4 + 2, none⟩ = some (.int .i64 x.kind) ∧ w'.cell? ⟨b, off + i * 4 + 3, none⟩ = some (.string x.val) ∧ w'.cell? ⟨wk.heap.size, 0, none⟩ = some (.slice none 0 0) ∧ w'.cell? ⟨wk.heap.size, 1, none⟩ = some (.slice none 0 0) ∧ w'.frozen? ⟨wk.heap.size, 0, none⟩ = false ∧ w'.frozen? ⟨wk.heap.size, 1, none⟩ = false ∧ Hid ((∃ t es', OwnSk w' wk.heap.size 62 (.slice a n c) (.slice a2 n2 c2) t es' ∧ IsPut s2 x H2 t ∧ n = t.nodes.length) ∧ Below wk.heap.size wk w' ∧ w'.heap[wk.heap.size]? = some (.cells #[.slice none 0 0, .slice none 0 0] 30))) := by
        refine (HQb.out _ UBb.out).mono ?_
        rintro e w' ⟨a, n, c, a2, n2, c2, rfl, k0, k1, k2, k3, k4, k5, ho, hu⟩
        have kb := blk_up TBb.out hu.out.1
        exact ⟨a, n, c, a2, n2, c2, rfl, k0, k1, k2, k3, k4, k5, blk_cell kb 0 _ rfl, blk_cell kb 1 _ rfl, blk_frozen kb 0, blk_frozen kb 1, ho.out, hu.out.2, kb⟩
      have HSb : Hid (Calls Try.prog 9 #[.agg #[.slice b3 s2.nodes.length d3, .slice b4 m2 d4], .agg #[.string x.key, .int .i64 x.seq, .int .i64 x.kind, .string x.val], .int .i64 H2] wk.drew fun e w' => ∃ a n c a2 n2 c2, e = .returned (.tuple #[.agg #[.slice a n c, .slice a2 n2 c2], .int .i64 CODE]) ∧ w'.cell? ⟨T1 + 1, 0, none⟩ = some (.slice b3 s2.nodes.length d3) ∧ w'.cell? ⟨T1 + 1, 1, none⟩ = some (.slice b4 m2 d4) ∧ w'.cell? ⟨b, off + i * 4, none⟩ = some (.string x.key) ∧ w'.cell? ⟨b, off + i * 4 + 1, none⟩ = some (.int .i64 x.seq) ∧ w'.cell? ⟨b, off + i * 4 + 2, none⟩ = some (.int .i64 x.kind) ∧ w'.cell? ⟨b, off + i * 4 + 3, none⟩ = some (.string x.val) ∧ Hid ((∃ t es', OwnSk w' wk.heap.size 62 (.slice a n c) (.slice a2 n2 c2) t es' ∧ IsPut s2 x H2 t ∧ n = t.nodes.length) ∧ Below wk.heap.size wk w')) := by
        refine (HQb.out _ UAb.out).mono ?_
        rintro e w' ⟨a, n, c, a2, n2, c2, rfl, k0, k1, k2, k3, k4, k5, ho, hu⟩
        exact ⟨a, n, c, a2, n2, c2, rfl, k0, k1, k2, k3, k4, k5, ho.out, hu.out.2⟩
      have zzb : ¬ wk.heap.size = T1 + 1 := by have := World.block_lt_of_cell? wk _ p0; simp only at this; omega
      have zyb : ¬ T1 + 1 = wk.heap.size := fun q => zzb q.symm
      have zbb : ¬ wk.heap.size = b := by have := World.block_lt_of_cell? wk _ X0; simp only at this; omega
      have zcb : ¬ b = wk.heap.size := fun q => zbb q.symm
      have dd0 := fun o => ((up_dr (up_al (Below.refl wk.heap.size wk) o)).cell (World.block_lt_of_cell? _ _ p0)).trans p0
      have dd1 := fun o => ((up_dr (up_al (Below.refl wk.heap.size wk) o)).cell (World.block_lt_of_cell? _ _ p1)).trans p1
      have dd2 := fun o => ((up_dr (up_al (Below.refl wk.heap.size wk) o)).cell (World.block_lt_of_cell? _ _ X0)).trans X0
      have dd3 := fun o => ((up_dr (up_al (Below.refl wk.heap.size wk) o)).cell (World.block_lt_of_cell? _ _ X1)).trans X1
      have dd4 := fun o => ((up_dr (up_al (Below.refl wk.heap.size wk) o)).cell (World.block_lt_of_cell? _ _ X2)).trans X2
      have dd5 := fun o => ((up_dr (up_al (Below.refl wk.heap.size wk) o)).cell (World.block_lt_of_cell? _ _ X3)).trans X3
      clear HQb UAb UBb TBb
      go_upto_region 13 with fail
      go_cut [18, 19] from 78 to 87 (fun sA sB wy => ∃ (T : Nat) (t : Sk) (es' : List (En × Value)) (a : Option Addr) (c : Nat) (a2 : Option Addr) (n2 c2 : Nat), sA = .pointer (some ⟨T, 0, none⟩) ∧ sB = .int .i64 CODE ∧ Hid (wy.heap[T]? = some (.cells #[.slice a t.nodes.length c, .slice a2 n2 c2] 30) ∧ OwnSk wy wk.heap.size 62 (.slice a t.nodes.length c) (.slice a2 n2 c2) t es' ∧ IsPut s2 x H2 t ∧ Below wk.heap.size wk wy ∧ wk.heap.size ≤ T))
      case first =>
        go_region_held3 (fun w' => w'.cell? ⟨T1 + 1, 0, none⟩ = some (.slice b3 s2.nodes.length d3) ∧ w'.cell? ⟨T1 + 1, 1, none⟩ = some (.slice b4 m2 d4) ∧ w'.cell? ⟨b, off + i * 4, none⟩ = some (.string x.key) ∧ w'.cell? ⟨b, off + i * 4 + 1, none⟩ = some (.int .i64 x.seq) ∧ w'.cell? ⟨b, off + i * 4 + 2, none⟩ = some (.int .i64 x.kind) ∧ w'.cell? ⟨b, off + i * 4 + 3, none⟩ = some (.string x.val)) (first | with_reducible exact ⟨y0, y1, y2, y3, y4, y5⟩ | with_reducible exact ⟨p0, p1, X0, X1, X2, X3⟩ | with_reducible exact ⟨dd0 _, dd1 _, dd2 _, dd3 _, dd4 _, dd5 _⟩ | with_reducible exact ⟨cell_al _ y0, cell_al _ y1, cell_al _ y2, cell_al _ y3, cell_al _ y4, cell_al _ y5⟩ | (simp [go_sem, y0, y1, y2, y3, y4, y5, zzb, zyb, zbb, zcb]; done) | (simp [go_sem, p0, p1, X0, X1, X2, X3]; done)) (first
          | (go_at_call 9; with_reducible refine HSb.out.mono ?_; rintro e w2 ⟨a, n, c, a2, n2, c2, rfl, y0, y1, y2, y3, y4, y5, hs⟩)
          | (go_at_call 9; with_reducible refine HRb.out.mono ?_; rintro e w2 ⟨a, n, c, a2, n2, c2, rfl, y0, y1, y2, y3, y4, y5, t0, t1, f0, f1, hs⟩))
        · obtain ⟨⟨t, es', ho, hp, rfl⟩, hb⟩ := hs.out
          have HF : Hid (OwnSk w2 wk.heap.size 62 (.slice a t.nodes.length c) (.slice a2 n2 c2) t es' ∧ IsPut s2 x H2 t ∧ Below wk.heap.size wk w2) := ⟨ho, hp, hb⟩
          clear ho hp hb hs y0 y1 y2 y3 y4 y5
          go_wp2_with fail
          go_meet
          case rel =>
            refine ⟨_, t, es', a, c, a2, n2, c2, rfl, rfl, ?_⟩
            unfold Hid
            exact ⟨blk_new _ _, HF.out.1.up (up_alloc _ _), HF.out.2.1, up_al HF.out.2.2 _, HF.out.2.2.size⟩
        · obtain ⟨⟨t, es', ho, hp, rfl⟩, hb, hT⟩ := hs.out
          have HF : Hid (OwnSk w2 wk.heap.size 62 (.slice a t.nodes.length c) (.slice a2 n2 c2) t es' ∧ IsPut s2 x H2 t ∧ Below wk.heap.size wk w2 ∧ w2.heap[wk.heap.size]? = some (.cells #[.slice none 0 0, .slice none 0 0] 30)) := ⟨ho, hp, hb, hT⟩
          clear ho hp hb hT hs y0 y1 y2 y3 y4 y5 t0 t1 f0 f1
          go_wp2_with fail
          go_meet
          case rel =>
            refine ⟨_, t, es', a, c, a2, n2, c2, rfl, rfl, ?_⟩
            have g2 := set2_grown w2 wk.heap.size (.slice a t.nodes.length c) (.slice a2 n2 c2)
            unfold Hid
            exact ⟨set2_blk HF.out.2.2.2 _ _, HF.out.1.block HF.out.2.2.2 (by decide) (by decide) g2, HF.out.2.1, HF.out.2.2.1.grown g2 HF.out.2.2.1.size (fun k hk => by injection hk with hk; omega), Nat.le_refl _⟩
      case rest =>
      clear HRb HSb dd0 dd1 dd2 dd3 dd4 dd5 zzb zyb zbb zcb

      obtain ⟨T3, u2, eu2, f3, g3, f4, fn4, g4, rfl, rfl, HU2⟩ := hcut
      clear p0 p1 X0 X1 X2 X3
      have HNM := num_any CODE wc
      have HZ : Hid (OwnSk wc w.heap.size 62 (.slice f1 u1.nodes.length g1) (.slice f2 fn2 g2) u1 eu1 ∧ OwnSk wc w.heap.size 62 (.slice f3 u2.nodes.length g3) (.slice f4 fn4 g4) u2 eu2 ∧ wc.heap[T2]? = some (.cells #[.slice f1 u1.nodes.length g1, .slice f2 fn2 g2] 30) ∧ wc.heap[T3]? = some (.cells #[.slice f3 u2.nodes.length g3, .slice f4 fn4 g4] 30) ∧ wc.heap[T1]? = some (.cells #[.slice b1 s1.nodes.length d1, .slice b2 m1 d2] 30) ∧ wc.heap[T1 + 1]? = some (.cells #[.slice b3 s2.nodes.length d3, .slice b4 m2 d4] 30) ∧ Below w.heap.size w wc ∧ OwnSk wc w.heap.size 62 (.slice b1 s1.nodes.length d1) (.slice b2 m1 d2) s1 es1 ∧ OwnSk wc w.heap.size 62 (.slice b3 s2.nodes.length d3) (.slice b4 m2 d4) s2 es2) := by
        have u := HU2.out.2.2.2.1
        have sz := HO.out.2.2.2.2.2.2.2.2.size
        exact ⟨(HU1.out.2.1.mono sz).up u, HU2.out.2.1.mono (Nat.le_trans sz HU1.out.2.2.2.1.size), blk_up HU1.out.1 u, HU2.out.1, blk_up HO1.out.2.2.1 u, blk_up HO1.out.2.2.2.1 u, up_trans HO1.out.2.2.2.2 u, HO1.out.2.1.up u, HO1.out.1.up u⟩
      have hcc : (CODE != CODE) = false := by simp
      go_wp2_with fail
      refine HNM.mono ?_
      rintro e w9 ⟨rfl, hw9⟩
      have hw9' := hw9.symm
      clear hw9 HNM
      by_cases hc : CODE = 0
      · have hc2 : (CODE == 0) = true := by simpa using hc
        rw [← hw9']
        clear hw9' w9
        have q0 : wc.cell? ⟨T2, 0, none⟩ = some (.slice f1 u1.nodes.length g1) := blk_cell HZ.out.2.2.1 0 _ rfl
        have q1 : wc.cell? ⟨T2, 1, none⟩ = some (.slice f2 fn2 g2) := blk_cell HZ.out.2.2.1 1 _ rfl
        have q2 : wc.cell? ⟨T3, 0, none⟩ = some (.slice f3 u2.nodes.length g3) := blk_cell HZ.out.2.2.2.1 0 _ rfl
        have q3 : wc.cell? ⟨T3, 1, none⟩ = some (.slice f4 fn4 g4) := blk_cell HZ.out.2.2.2.1 1 _ rfl
        have k0 : wc.cell? ⟨T1, 0, none⟩ = some (.slice b1 s1.nodes.length d1) := blk_cell HZ.out.2.2.2.2.1 0 _ rfl
        have k1 : wc.cell? ⟨T1, 1, none⟩ = some (.slice b2 m1 d2) := blk_cell HZ.out.2.2.2.2.1 1 _ rfl
        have k2 : wc.cell? ⟨T1 + 1, 0, none⟩ = some (.slice b3 s2.nodes.length d3) := blk_cell HZ.out.2.2.2.2.2.1 0 _ rfl
        have k3 : wc.cell? ⟨T1 + 1, 1, none⟩ = some (.slice b4 m2 d4) := blk_cell HZ.out.2.2.2.2.2.1 1 _ rfl
        have j0 := fun k => blk_frozen HZ.out.2.2.2.2.1 k
        have j1 := fun k => blk_frozen HZ.out.2.2.2.2.2.1 k
        have n1 : ¬ T1 = T2 := by have := HTL.out; have := HU1.out.2.2.2.2; omega
        have n2 : ¬ T1 + 1 = T2 := by have := HTL.out; have := HU1.out.2.2.2.2; omega
        have n3 : ¬ T1 = T3 := by have := HTL.out; have := HU2.out.2.2.2.2; have := HU1.out.2.2.2.1.size; omega
        have n4 : ¬ T1 + 1 = T3 := by have := HTL.out; have := HU2.out.2.2.2.2; have := HU1.out.2.2.2.1.size; omega
        have n5 : ¬ T2 = T1 := fun q => n1 q.symm
        have n6 : ¬ T2 = T1 + 1 := fun q => n2 q.symm
        have n7 : ¬ T3 = T1 := fun q => n3 q.symm
        have n8 : ¬ T3 = T1 + 1 := fun q => n4 q.symm
        have HNEW : Hid (Good u1 ∧ Good u2 ∧ u1.es = u2.es ∧ u1.es.length ≤ i + 1 ∧ OwnSk (((((wc.setCell ⟨T1, 0, none⟩ (.slice f1 u1.nodes.length g1)).setCell ⟨T1, 1, none⟩ (.slice f2 fn2 g2)).setCell ⟨T1 + 1, 0, none⟩ (.slice f3 u2.nodes.length g3)).setCell ⟨T1 + 1, 1, none⟩ (.slice f4 fn4 g4)).drew) w.heap.size 62 (.slice f1 u1.nodes.length g1) (.slice f2 u1.head.length g2) u1 eu1 ∧ OwnSk (((((wc.setCell ⟨T1, 0, none⟩ (.slice f1 u1.nodes.length g1)).setCell ⟨T1, 1, none⟩ (.slice f2 fn2 g2)).setCell ⟨T1 + 1, 0, none⟩ (.slice f3 u2.nodes.length g3)).setCell ⟨T1 + 1, 1, none⟩ (.slice f4 fn4 g4)).drew) w.heap.size 62 (.slice f3 u2.nodes.length g3) (.slice f4 u2.head.length g4) u2 eu2 ∧ (((((wc.setCell ⟨T1, 0, none⟩ (.slice f1 u1.nodes.length g1)).setCell ⟨T1, 1, none⟩ (.slice f2 fn2 g2)).setCell ⟨T1 + 1, 0, none⟩ (.slice f3 u2.nodes.length g3)).setCell ⟨T1 + 1, 1, none⟩ (.slice f4 fn4 g4)).drew).heap[T1]? = some (.cells #[.slice f1 u1.nodes.length g1, .slice f2 u1.head.length g2] 30) ∧ (((((wc.setCell ⟨T1, 0, none⟩ (.slice f1 u1.nodes.length g1)).setCell ⟨T1, 1, none⟩ (.slice f2 fn2 g2)).setCell ⟨T1 + 1, 0, none⟩ (.slice f3 u2.nodes.length g3)).setCell ⟨T1 + 1, 1, none⟩ (.slice f4 fn4 g4)).drew).heap[T1 + 1]? = some (.cells #[.slice f3 u2.nodes.length g3, .slice f4 u2.head.length g4] 30) ∧ Below w.heap.size w (((((wc.setCell ⟨T1, 0, none⟩ (.slice f1 u1.nodes.length g1)).setCell ⟨T1, 1, none⟩ (.slice f2 fn2 g2)).setCell ⟨T1 + 1, 0, none⟩ (.slice f3 u2.nodes.length g3)).setCell ⟨T1 + 1, 1, none⟩ (.slice f4 fn4 g4)).drew)) := by
          have i1 := HU1.out.2.2.1.2 (HCODEa.out.trans hc)
          have i2 := HU2.out.2.2.1.2 (HCODEb.out.trans hc)
          have e1 : fn2 = u1.head.length := by
            obtain ⟨_, ⟨_, _, e⟩⟩ := HZ.out.1.read.form
            simp only [Value.slice.injEq] at e
            exact e.2.1
          have e2 : fn4 = u2.head.length := by
            obtain ⟨_, ⟨_, _, e⟩⟩ := HZ.out.2.1.read.form
            simp only [Value.slice.injEq] at e
            exact e.2.1
          subst e1 e2
          have ga := set2_grown wc T1 (.slice f1 u1.nodes.length g1) (.slice f2 u1.head.length g2)
          have gb := set2_grown ((wc.setCell ⟨T1, 0, none⟩ (.slice f1 u1.nodes.length g1)).setCell ⟨T1, 1, none⟩ (.slice f2 u1.head.length g2)) (T1 + 1) (.slice f3 u2.nodes.length g3) (.slice f4 u2.head.length g4)
          have B1 := blk_grown HZ.out.2.2.2.2.2.1 ga (by simp)
          have ud := fun X : World => up_dr (Below.refl X.heap.size X)
          have sz := HSZ.out
          refine ⟨i1.1, i2.1, by rw [i1.2.1, i2.2.1, HO.out.2.2.1], by rw [i1.2.1]; have := HO.out.2.2.2.1; simp; omega, ?_, ?_, ?_, ?_, ?_⟩
          · exact ((HZ.out.1.block HZ.out.2.2.2.2.1 (by decide) (by decide) ga).block B1 (by decide) (by decide) gb).up (ud _)
          · exact ((HZ.out.2.1.block HZ.out.2.2.2.2.1 (by decide) (by decide) ga).block B1 (by decide) (by decide) gb).up (ud _)
          · exact blk_up (blk_grown (set2_blk HZ.out.2.2.2.2.1 _ _) gb (by simp)) (ud _)
          · exact blk_up (set2_blk B1 _ _) (ud _)
          · have l1 := HZ.out.2.2.2.2.2.2.1.grown ga HZ.out.2.2.2.2.2.2.1.size (fun k hk => by injection hk with hk; omega)
            have l2 := l1.grown gb l1.size (fun k hk => by injection hk with hk; omega)
            exact up_trans l2 (ud _)
        go_wp2_with fail
        go_region_held3 (fun w' => w'.cell? ⟨T2, 0, none⟩ = some (.slice f1 u1.nodes.length g1) ∧ w'.cell? ⟨T2, 1, none⟩ = some (.slice f2 fn2 g2) ∧ w'.cell? ⟨T3, 0, none⟩ = some (.slice f3 u2.nodes.length g3) ∧ w'.cell? ⟨T3, 1, none⟩ = some (.slice f4 fn4 g4)) (first | with_reducible exact ⟨q0, q1, q2, q3⟩ | (simp [go_sem, q0, q1, q2, q3, n1, n2, n3, n4, n5, n6, n7, n8]; done)) (fail)
        all_goals
          go_wp2_with fail
          exact ⟨⟨i + 1, u1, u2, eu1, eu2, f1, f2, f3, f4, g1, g2, g3, g4, by omega, by omega, by go_num, HNEW⟩, by simp [intOf]; omega⟩
      · have hc2 : (CODE == 0) = false := by simpa using hc
        rw [← hw9']
        clear hw9' w9
        go_wp2_with fail
        refine ⟨⟨i + 1, s1, s2, es1, es2, b1, b2, b3, b4, d1, d2, d3, d4, by omega, by omega, by go_num, ?_⟩, by simp [intOf]; omega⟩
        unfold Hid
        rw [HM.out.1, HM.out.2]
        exact ⟨HO.out.1, HO.out.2.1, HO.out.2.2.1, by have := HO.out.2.2.2.1; omega, HZ.out.2.2.2.2.2.2.2.1, HZ.out.2.2.2.2.2.2.2.2, HZ.out.2.2.2.2.1, HZ.out.2.2.2.2.2.1, HZ.out.2.2.2.2.2.2.1⟩
    · have hgo2 : ¬ (i : Int) < (l.length : Int) ∨ ((i : Int) < (l.length : Int) ∧ ¬ (i : Int) < 30) := by omega
      have HGV : Hid (getV s1 key seq = getV s2 key seq ∧ (getV s1 key seq).2.2 = 0 ∧ errC s1 = 0 ∧ errC s2 = 0 ∧ allV s1 = allV s2) := by
        refine ⟨getV_es HO.out.1 HO.out.2.1 HO.out.2.2.1 _ _, getV_zero HO.out.1 _ _, errC_good HO.out.1, errC_good HO.out.2.1, ?_⟩
        unfold allV
        rw [(checkS_iff s1).2 HO.out.1, (checkS_iff s2).2 HO.out.2.1, all_es, all_es, HO.out.2.2.1]
      generalize hm1 : s1.head.length = m1 at *
      generalize hm2 : s2.head.length = m2 at *
      clear hm1 hm2
      have p0 : wr.cell? ⟨T1, 0, none⟩ = some (.slice b1 s1.nodes.length d1) := blk_cell HO.out.2.2.2.2.2.2.1 0 _ rfl
      have p1 : wr.cell? ⟨T1, 1, none⟩ = some (.slice b2 m1 d2) := blk_cell HO.out.2.2.2.2.2.2.1 1 _ rfl
      have HA1 := all_any s1 es1 _ _ wr HO.out.2.2.2.2.1.read
      rw [HGV.out.2.2.1] at HA1
      have HA1H : Hid (Calls Try.prog 13 #[.agg #[.slice b1 s1.nodes.length d1, .slice b2 m1 d2]] wr fun e w' => ∃ a n c, e = .returned (.tuple #[.slice a n c, .int .i64 0]) ∧ Hid (n = (allV s1).length ∧ OwnR w' wr.heap.size 27 4 (.slice a n c) ((allV s1).map enRow)) ∧ Hid (Below wr.heap.size wr w')) := HA1
      clear HA1
      rcases hgo2 with hgo3 | ⟨hgo3, hgo4⟩
      all_goals
        clear hgo
        go_wp2_with fail
        refine HA1H.out.mono ?_
        rintro e w3 ⟨e1, n1, e2, rfl, HL1, U3⟩
        clear HA1H p0 p1
        have q0 : w3.cell? ⟨T1 + 1, 0, none⟩ = some (.slice b3 s2.nodes.length d3) := blk_cell (blk_up HO.out.2.2.2.2.2.2.2.1 U3.out) 0 _ rfl
        have q1 : w3.cell? ⟨T1 + 1, 1, none⟩ = some (.slice b4 m2 d4) := blk_cell (blk_up HO.out.2.2.2.2.2.2.2.1 U3.out) 1 _ rfl
        have HA2 := all_any s2 es2 _ _ w3 (HO.out.2.2.2.2.2.1.read.up U3.out)
        rw [HGV.out.2.2.2.1] at HA2
        go_wp2_with fail
        refine HA2.mono ?_
        rintro e w4 ⟨e3, n2, e4, rfl, HL2, U4⟩
        clear HA2 q0 q1
        have U34 : Hid (Below wr.heap.size wr w4) := up_trans U3.out U4.out
        have r0 : w4.cell? ⟨T1, 0, none⟩ = some (.slice b1 s1.nodes.length d1) := blk_cell (blk_up HO.out.2.2.2.2.2.2.1 U34.out) 0 _ rfl
        have r1 : w4.cell? ⟨T1, 1, none⟩ = some (.slice b2 m1 d2) := blk_cell (blk_up HO.out.2.2.2.2.2.2.1 U34.out) 1 _ rfl
        have HG1 := get_any s1 es1 _ _ key seq w4 (HO.out.2.2.2.2.1.read.up U34.out)
        have HG2 := fun w' (hV : SkE w' (.slice b3 s2.nodes.length d3) (.slice b4 m2 d4) s2 es2) => get_any s2 es2 _ _ key seq w' hV
        rw [← HGV.out.1] at HG2
        have hz := HGV.out.2.1
        obtain ⟨G, hG⟩ : ∃ G, getV s1 key seq = G := ⟨_, rfl⟩
        rw [hG] at HG1 HG2 hz
        obtain ⟨gy, gb, gc⟩ := G
        simp only at hz
        subst hz
        simp only at HG1 HG2
        unfold enV at HG1 HG2
        have HG2H : Hid (∀ w', SkE w' (.slice b3 s2.nodes.length d3) (.slice b4 m2 d4) s2 es2 → Calls Try.prog 11 #[.agg #[.slice b3 s2.nodes.length d3, .slice b4 m2 d4], .string key, .int .i64 seq] w' fun e w'' => e = .returned (.tuple #[.agg #[.string gy.key, .int .i64 gy.seq, .int .i64 gy.kind, .string gy.val], .bool gb, .int .i64 0]) ∧ Hid (Below w'.heap.size w' w'')) := HG2
        clear HG2 hG
        go_wp2_with fail
        refine HG1.mono ?_
        rintro e w5 ⟨rfl, U5⟩
        clear HG1 r0 r1
        obtain ⟨w6, hw6⟩ : ∃ w6, w6 = w5.alloc (.cells #[.string gy.key, .int .i64 gy.seq, .int .i64 gy.kind, .string gy.val] 27) := ⟨_, rfl⟩
        have HW6 : Hid (w5.alloc (.cells #[.string gy.key, .int .i64 gy.seq, .int .i64 gy.kind, .string gy.val] 27) = w6) := hw6.symm
        have U46 : Hid (Below w4.heap.size w4 w6) := by rw [hw6]; exact up_al U5.out _
        have B6 : Hid (w6.heap[w5.heap.size]? = some (.cells #[.string gy.key, .int .i64 gy.seq, .int .i64 gy.kind, .string gy.val] 27)) := by rw [hw6]; exact blk_new _ _
        have UR6 : Hid (Below wr.heap.size wr w6) := up_trans U34.out U46.out
        have r0 : (w5.alloc (.cells #[.string gy.key, .int .i64 gy.seq, .int .i64 gy.kind, .string gy.val] 27)).cell? ⟨T1 + 1, 0, none⟩ = some (.slice b3 s2.nodes.length d3) := by rw [HW6.out]; exact blk_cell (blk_up HO.out.2.2.2.2.2.2.2.1 UR6.out) 0 _ rfl
        have r1 : (w5.alloc (.cells #[.string gy.key, .int .i64 gy.seq, .int .i64 gy.kind, .string gy.val] 27)).cell? ⟨T1 + 1, 1, none⟩ = some (.slice b4 m2 d4) := by rw [HW6.out]; exact blk_cell (blk_up HO.out.2.2.2.2.2.2.2.1 UR6.out) 1 _ rfl
        clear hw6
        go_wp2_with fail
        rw [HW6.out]
        refine (HG2H.out w6 (HO.out.2.2.2.2.2.1.read.up UR6.out)).mono ?_
        rintro e w7 ⟨rfl, U7⟩
        clear HG2H r0 r1 HW6
        obtain ⟨w8, hw8⟩ : ∃ w8, w8 = w7.alloc (.cells #[.string gy.key, .int .i64 gy.seq, .int .i64 gy.kind, .string gy.val] 27) := ⟨_, rfl⟩
        have HW8 : Hid (w7.alloc (.cells #[.string gy.key, .int .i64 gy.seq, .int .i64 gy.kind, .string gy.val] 27) = w8) := hw8.symm
        have U68 : Hid (Below w6.heap.size w6 w8) := by rw [hw8]; exact up_al U7.out _
        have B8 : Hid (w8.heap[w7.heap.size]? = some (.cells #[.string gy.key, .int .i64 gy.seq, .int .i64 gy.kind, .string gy.val] 27)) := by rw [hw8]; exact blk_new _ _
        have UE : Hid (Below w.heap.size w w8) := up_trans HO.out.2.2.2.2.2.2.2.2 (up_trans UR6.out U68.out)
        have HSE : Hid (Calls Try.prog 17 #[.slice e1 n1 e2, .slice e3 n2 e4] w8 fun e w' => e = .returned (.bool true) ∧ ∃ d, w' = w8.drewN d) := by
          have h1 : EntsR w8 (.slice e1 n1 e2) (allV s1) := (Rws.own HL1.out.2).up (up_trans U4.out (up_trans U46.out U68.out))
          have h2 : EntsR w8 (.slice e3 n2 e4) (allV s1) := by
            rw [HGV.out.2.2.2.2]
            exact (Rws.own HL2.out.2).up (up_trans U46.out U68.out)
          exact sameEnts_self (allV s1) _ _ w8 h1 h2
        generalize hX1 : w5.heap.size = X1 at *
        have BX : Hid (∀ d, (w8.drewN d).heap[X1]? = some (.cells #[.string gy.key, .int .i64 gy.seq, .int .i64 gy.kind, .string gy.val] 27) ∧ (w8.drewN d).heap[w7.heap.size]? = some (.cells #[.string gy.key, .int .i64 gy.seq, .int .i64 gy.kind, .string gy.val] 27)) := fun d => ⟨blk_up B6.out (below_drewN U68.out d), B8.out⟩
        have HN0 : Hid (∀ W, Calls Try.prog 16 #[.int .i64 0] W fun e w' => e = .returned (.int .i64 0) ∧ w' = W) := fun W => num_any 0 W
        clear hw8
        go_wp2_with fail
        rw [HW8.out]
        refine (HN0.out _).mono ?_
        rintro e w9 ⟨rfl, hw9⟩
        rw [hw9]
        clear hw9 w9
        go_wp2_with fail
        refine (HN0.out _).mono ?_
        rintro e w9 ⟨rfl, hw9⟩
        rw [hw9]
        clear hw9 w9
        go_wp2_with fail
        refine (HN0.out _).mono ?_
        rintro e w9 ⟨rfl, hw9⟩
        rw [hw9]
        clear hw9 w9
        go_wp2_with fail
        refine (HN0.out _).mono ?_
        rintro e w9 ⟨rfl, hw9⟩
        rw [hw9]
        clear hw9 w9
        go_wp2_with fail
        refine HSE.out.mono ?_
        rintro e w9 ⟨rfl, d, hw9⟩
        rw [hw9]
        clear hw9 w9 HW8
        have B9 := BX.out d
        generalize hX2 : w7.heap.size = X2 at *
        have g0 : (w8.drewN d).cell? ⟨X1, 0, none⟩ = some (.string gy.key) := blk_cell B9.1 0 _ rfl
        have g1 : (w8.drewN d).cell? ⟨X1, 1, none⟩ = some (.int .i64 gy.seq) := blk_cell B9.1 1 _ rfl
        have g2 : (w8.drewN d).cell? ⟨X1, 2, none⟩ = some (.int .i64 gy.kind) := blk_cell B9.1 2 _ rfl
        have g3 : (w8.drewN d).cell? ⟨X1, 3, none⟩ = some (.string gy.val) := blk_cell B9.1 3 _ rfl
        have k0 : (w8.drewN d).cell? ⟨X2, 0, none⟩ = some (.string gy.key) := blk_cell B9.2 0 _ rfl
        have k1 : (w8.drewN d).cell? ⟨X2, 1, none⟩ = some (.int .i64 gy.seq) := blk_cell B9.2 1 _ rfl
        have k2 : (w8.drewN d).cell? ⟨X2, 2, none⟩ = some (.int .i64 gy.kind) := blk_cell B9.2 2 _ rfl
        have k3 : (w8.drewN d).cell? ⟨X2, 3, none⟩ = some (.string gy.val) := blk_cell B9.2 3 _ rfl
        clear B9
        go_wp2_with fail
        go_ret
        exact ⟨by simp, below_drewN UE.out d⟩
end Go.Proofs.Ytmiokopnhkojoaa
