/- The walk of the law FilesKeeps. -/
import Derived.Test.YtoceddpjkodfkaaW1
import Derived.Test.YtoceddpjkodfkaaT3
import Derived.Test.YtoceddpjkodfkaaU3
namespace Go.Proofs.Ytoceddpjkodfkaa
open Go.RowKit
set_option linter.unusedVariables false

set_option maxHeartbeats 8000000 in
set_option maxRecDepth 4000 in
theorem keeps_walk (s : St) (l : List Ac) (keep : List Int) (v va vk : Value) (w : World) (hv : StW w v s) (ha : ActsW w va l) (hk : IntsW w vk keep)
    (h1 : s.files.length * 40 ≤ 140737488351232) (h2 : s.names.length * 24 ≤ 140737488351232) (h3 : s.safe.length * 24 ≤ 140737488351232) :
    Calls Try.prog 7 #[v, va, vk] w fun e w' => e = .returned (.bool true) ∧ Below w.heap.size w w' := by
  obtain ⟨a0f, c0f, a0n, c0n, a0s, c0s, rfl⟩ := hv.form
  obtain ⟨aa, ca, rfl, hca, hma⟩ := ha.len
  obtain ⟨ak, ck, rfl, hck, hmk⟩ := hk.len
  have HV : Hid (StW w (.agg #[.int .i64 s.cap, .slice a0f s.files.length c0f, .slice a0n s.names.length c0n, .slice a0s s.safe.length c0s, .int .i64 s.next]) s) := hv
  have HA : Hid (ActsW w (.slice aa l.length ca) l) := ha
  have HK : Hid (IntsW w (.slice ak keep.length ck) keep) := hk
  have H1 : Hid (s.files.length * 40 ≤ 140737488351232 ∧ s.names.length * 24 ≤ 140737488351232 ∧ s.safe.length * 24 ≤ 140737488351232) := ⟨h1, h2, h3⟩
  have H2 : Hid (s.names.length + s.safe.length ≤ 9223372036854775807) := by unfold Hid; omega
  clear hv ha hk h1 h2 h3
  have B0 : (w.alloc (.cells #[.int .i64 s.cap, .slice a0f s.files.length c0f, .slice a0n s.names.length c0n, .slice a0s s.safe.length c0s, .int .i64 s.next] 25)).heap[w.heap.size]? = some (.cells #[.int .i64 s.cap, .slice a0f s.files.length c0f, .slice a0n s.names.length c0n, .slice a0s s.safe.length c0s, .int .i64 s.next] 25) := blk_new _ _
  have U0 : Hid (Below w.heap.size w (w.alloc (.cells #[.int .i64 s.cap, .slice a0f s.files.length c0f, .slice a0n s.names.length c0n, .slice a0s s.safe.length c0s, .int .i64 s.next] 25))) := up_alloc _ _
  go_enter Try.func7, Try.ntmps7
  go_wp2_with fail
  generalize w.alloc (.cells #[.int .i64 s.cap, .slice a0f s.files.length c0f, .slice a0n s.names.length c0n, .slice a0s s.safe.length c0s, .int .i64 s.next] 25) = w0 at *
  refine (alive_any w0).mono ?_
  rintro e w1 ⟨rfl, u⟩
  have U1 : Hid (Below w.heap.size w w1) := up_trans U0.out u
  have B1 := blk_up B0 u
  clear B0 u
  obtain ⟨p0, p1, p2, p3, p4⟩ := box_cells B1
  go_wp2_with fail
  refine (of_any s _ w1 (HV.out.up U1.out) H1.out.1 H1.out.2.1 H1.out.2.2).mono ?_
  rintro e w2 ⟨v2, rfl, ov, u⟩
  obtain ⟨a2f, c2f, a2n, c2n, a2s, c2s, rfl⟩ := (StW.own ov).form
  have O2 : Hid (OwnV w2 w1.heap.size (.agg #[.int .i64 s.cap, .slice a2f s.files.length c2f, .slice a2n s.names.length c2n, .slice a2s s.safe.length c2s, .int .i64 s.next]) s) := ov
  have U2 : Hid (Below w.heap.size w w2) := up_trans U1.out u
  have B2 := blk_up B1 u
  clear ov u B1 p0 p1 p2 p3 p4
  go_wp2_with fail
  refine (run_any s l _ _ w2 (StW.own O2.out) (HA.out.up U2.out) H2.out (fun hc k hk => check_sound (good_check (after_good (check_good hc) l k hk)))).mono ?_
  rintro e w3 ⟨v3, rfl, ov, u⟩
  have HT : Hid (∃ T, T = runP s l) := ⟨_, rfl⟩
  obtain ⟨T, hT⟩ := HT.out
  rw [← hT] at ov ⊢
  replace hT : Hid (T = runP s l) := hT
  clear HT
  obtain ⟨t, n, ee⟩ := T
  simp only at ov
  obtain ⟨a3f, c3f, a3n, c3n, a3s, c3s, rfl⟩ := (StW.own ov).form
  have O3 : Hid (OwnV w3 w2.heap.size (.agg #[.int .i64 t.cap, .slice a3f t.files.length c3f, .slice a3n t.names.length c3n, .slice a3s t.safe.length c3s, .int .i64 t.next]) t) := ov
  have U3 : Hid (Below w.heap.size w w3) := up_trans U2.out u
  have B3 := blk_up (blk_up B2 u) (up_alloc w3 (.cells #[.int .i64 t.cap, .slice a3f t.files.length c3f, .slice a3n t.names.length c3n, .slice a3s t.safe.length c3s, .int .i64 t.next] 33))
  have B7 : (w3.alloc (.cells #[.int .i64 t.cap, .slice a3f t.files.length c3f, .slice a3n t.names.length c3n, .slice a3s t.safe.length c3s, .int .i64 t.next] 33)).heap[w3.heap.size]? = some (.cells #[.int .i64 t.cap, .slice a3f t.files.length c3f, .slice a3n t.names.length c3n, .slice a3s t.safe.length c3s, .int .i64 t.next] 33) := blk_new _ _
  have U4 : Hid (Below w3.heap.size w3 (w3.alloc (.cells #[.int .i64 t.cap, .slice a3f t.files.length c3f, .slice a3n t.names.length c3n, .slice a3s t.safe.length c3s, .int .i64 t.next] 33))) := up_alloc _ _
  clear ov u B2
  obtain ⟨p0, p1, p2, p3, p4⟩ := box_cells B3
  go_wp2_with fail
  generalize w3.alloc (.cells #[.int .i64 t.cap, .slice a3f t.files.length c3f, .slice a3n t.names.length c3n, .slice a3s t.safe.length c3s, .int .i64 t.next] 33) = w4 at *
  refine (refCheck_any s _ w4 (HV.out.up (up_trans U3.out U4.out))).mono ?_
  rintro e w5 ⟨rfl, u⟩
  have U5 : Hid (Below w3.heap.size w3 w5) := up_trans U4.out u
  have BB := blk_up B7 u
  clear B7 u B3 p0 p1 p2 p3 p4 U4
  cases hc : checkP s
  · have e1 := hT.out.trans (run_bad hc l)
    simp only [Prod.mk.injEq] at e1
    obtain ⟨_, rfl, rfl⟩ := e1
    have e9 : errOf false = 9 := rfl
    rw [e9]
    clear e9 hc
    go_wp2_with fail
    refine (num_any 9 _).mono ?_
    rintro e w6 ⟨rfl, rfl⟩
    go_wp2_with fail
    go_ret
    exact ⟨rfl, up_trans U3.out U5.out⟩
  · have hg := check_good hc
    have hr := run_good hg l
    rw [← hT.out] at hr
    simp only at hr
    obtain ⟨gt, hn0, hn1⟩ := hr
    have GT : Hid (Good t) := gt
    have e0 : errOf true = 0 := rfl
    have E0 : Hid (errOf true = 0) := e0
    rw [e0]
    clear e0 hc hg gt hT
    obtain ⟨p0, p1, p2, p3, p4⟩ := box_cells BB
    go_wp2_with fail
    refine (crash_any t keep _ _ w5 ((StW.own O3.out).up U5.out) (HK.out.up (up_trans U3.out U5.out)) (good_few GT.out)).mono ?_
    rintro e w6 ⟨v6, rfl, ov, u⟩
    rw [crash_ok GT.out keep]
    have GU : Hid (Good (crashP t keep).1) := crash_good GT.out keep
    have AG : Hid ((crashP (crashP t keep).1 []).1.names = (crashP t keep).1.names ∧ (crashP (crashP t keep).1 []).1.files.length = (crashP t keep).1.files.length) := crash_again GT.out keep []
    generalize (crashP t keep).1 = x at *
    obtain ⟨a6f, c6f, a6n, c6n, a6s, c6s, rfl⟩ := (StW.own ov).form
    have O6 : Hid (OwnV w6 w5.heap.size (.agg #[.int .i64 x.cap, .slice a6f x.files.length c6f, .slice a6n x.names.length c6n, .slice a6s x.safe.length c6s, .int .i64 x.next]) x) := ov
    have U6 : Hid (Below w5.heap.size w5 w6) := u
    have BC := blk_up (blk_up BB u) (up_alloc w6 (.cells #[.int .i64 x.cap, .slice a6f x.files.length c6f, .slice a6n x.names.length c6n, .slice a6s x.safe.length c6s, .int .i64 x.next] 33))
    have B6 : (w6.alloc (.cells #[.int .i64 x.cap, .slice a6f x.files.length c6f, .slice a6n x.names.length c6n, .slice a6s x.safe.length c6s, .int .i64 x.next] 33)).heap[w6.heap.size]? = some (.cells #[.int .i64 x.cap, .slice a6f x.files.length c6f, .slice a6n x.names.length c6n, .slice a6s x.safe.length c6s, .int .i64 x.next] 33) := blk_new _ _
    have U7 : Hid (Below w6.heap.size w6 (w6.alloc (.cells #[.int .i64 x.cap, .slice a6f x.files.length c6f, .slice a6n x.names.length c6n, .slice a6s x.safe.length c6s, .int .i64 x.next] 33))) := up_alloc _ _
    clear ov u BB p0 p1 p2 p3 p4
    obtain ⟨p0, p1, p2, p3, p4⟩ := box_cells B6
    go_wp2_with fail
    generalize w6.alloc (.cells #[.int .i64 x.cap, .slice a6f x.files.length c6f, .slice a6n x.names.length c6n, .slice a6s x.safe.length c6s, .int .i64 x.next] 33) = w7 at *
    clear p0 p1 p2 p3 p4
    refine (crash_any x [] _ _ w7 ((StW.own O6.out).up U7.out) ⟨(fun x hx => by cases hx), Rws.nil 1 w7⟩ (good_few GU.out)).mono ?_
    rintro e w8 ⟨v8, rfl, ov, u⟩
    rw [crash_ok GU.out []]
    generalize (crashP x []).1 = y at *
    obtain ⟨a8f, c8f, a8n, c8n, a8s, c8s, hv8⟩ := (StW.own ov).form
    rw [AG.out.1, AG.out.2] at hv8
    subst hv8
    have U8 : Hid (Below w7.heap.size w7 w8) := u
    have BD := blk_up (blk_up BC u) (up_alloc w8 (.cells #[.int .i64 y.cap, .slice a8f x.files.length c8f, .slice a8n x.names.length c8n, .slice a8s y.safe.length c8s, .int .i64 y.next] 33))
    have BE := blk_up (blk_up B6 u) (up_alloc w8 (.cells #[.int .i64 y.cap, .slice a8f x.files.length c8f, .slice a8n x.names.length c8n, .slice a8s y.safe.length c8s, .int .i64 y.next] 33))
    have BF : (w8.alloc (.cells #[.int .i64 y.cap, .slice a8f x.files.length c8f, .slice a8n x.names.length c8n, .slice a8s y.safe.length c8s, .int .i64 y.next] 33)).heap[w8.heap.size]? = some (.cells #[.int .i64 y.cap, .slice a8f x.files.length c8f, .slice a8n x.names.length c8n, .slice a8s y.safe.length c8s, .int .i64 y.next] 33) := blk_new _ _
    have U9 : Hid (Below w8.heap.size w8 (w8.alloc (.cells #[.int .i64 y.cap, .slice a8f x.files.length c8f, .slice a8n x.names.length c8n, .slice a8s y.safe.length c8s, .int .i64 y.next] 33))) := up_alloc _ _
    clear ov u BC B6
    go_wp2_with fail
    generalize w8.alloc (.cells #[.int .i64 y.cap, .slice a8f x.files.length c8f, .slice a8n x.names.length c8n, .slice a8s y.safe.length c8s, .int .i64 y.next] 33) = w9 at *
    have U59 : Hid (Below w5.heap.size w5 w9) := up_trans U6.out (up_trans U7.out (up_trans U8.out U9.out))
    have U69 : Hid (Below w6.heap.size w6 w9) := up_trans U7.out (up_trans U8.out U9.out)
    refine (num_any 0 _).mono ?_
    rintro e w10 ⟨rfl, rfl⟩
    go_wp2_with fail
    refine (num_any 0 _).mono ?_
    rintro e w10 ⟨rfl, rfl⟩
    obtain ⟨p0, p1, p2, p3, p4⟩ := box_cells BD
    go_wp2_with fail
    refine (check_any t _ _ ((StW.own O3.out).up (up_trans U5.out U59.out)) (good_few GT.out)).mono ?_
    rintro e w11 ⟨rfl, u⟩
    rw [good_check GT.out, E0.out]
    have UB : Hid (Below _ _ w11) := u
    have BG := blk_up BE u
    have BH := blk_up BF u
    clear p0 p1 p2 p3 p4 BD BE BF u
    go_wp2_with fail
    refine (num_any 0 _).mono ?_
    rintro e w12 ⟨rfl, rfl⟩
    obtain ⟨p0, p1, p2, p3, p4⟩ := box_cells BG
    go_wp2_with fail
    refine (check_any x _ _ ((StW.own O6.out).up (up_trans U69.out UB.out)) (good_few GU.out)).mono ?_
    rintro e w13 ⟨rfl, u⟩
    rw [good_check GU.out, E0.out]
    have UC : Hid (Below _ _ w13) := u
    have BI := blk_up BG u
    have BJ := blk_up BH u
    clear p0 p1 p2 p3 p4 BG BH u
    go_wp2_with fail
    refine (num_any 0 _).mono ?_
    rintro e w14 ⟨rfl, rfl⟩
    obtain ⟨p0, p1, p2, p3, p4⟩ := box_cells BI
    obtain ⟨q0, q1, q2, q3, q4⟩ := box_cells BJ
    go_wp2_with fail
    go_ret
    exact ⟨rfl, up_trans U3.out (up_trans U5.out (up_trans U59.out (up_trans UB.out UC.out)))⟩
end Go.Proofs.Ytoceddpjkodfkaa
