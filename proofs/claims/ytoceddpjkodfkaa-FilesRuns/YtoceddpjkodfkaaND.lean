/- The law FilesRuns holds: for every state and every slice of acts the Go function returns true, and what was handed in reads as before; no conditions. -/
import Derived.Test.YtoceddpjkodfkaaNC
import Derived.Test.YtoceddpjkodfkaaRows
import Derived.Test.YtoceddpjkodfkaaV1
import Derived.WalkKit
import Derived.ProofKit
import Derived.OpenShut
import Derived.ShutString
import Derived.ChangeOld
import Derived.Below
import Derived.SizedLaws

/- The walk of the law FilesRuns. -/
namespace Go.Proofs.Ytoceddpjkodfkaa
open Go.RowKit
set_option linter.unusedVariables false

set_option maxHeartbeats 8000000 in
set_option maxRecDepth 4000 in
theorem runs_walk (s : St) (l : List Ac) (v va : Value) (w : World) (hv : StW w v s) (ha : ActsW w va l)
    (h1 : s.files.length * 40 ≤ 140737488351232) (h2 : s.names.length * 24 ≤ 140737488351232) (h3 : s.safe.length * 24 ≤ 140737488351232) :
    Calls Try.prog 4 #[v, va] w fun e w' => e = .returned (.bool true) ∧ Below w.heap.size w w' := by
  obtain ⟨a0f, c0f, a0n, c0n, a0s, c0s, rfl⟩ := hv.form
  obtain ⟨aa, ca, rfl, hca, hma⟩ := ha.len
  have HV : Hid (StW w (.agg #[.int .i64 s.cap, .slice a0f s.files.length c0f, .slice a0n s.names.length c0n, .slice a0s s.safe.length c0s, .int .i64 s.next]) s) := hv
  have HA : Hid (ActsW w (.slice aa l.length ca) l) := ha
  have H1 : Hid (s.files.length * 40 ≤ 140737488351232 ∧ s.names.length * 24 ≤ 140737488351232 ∧ s.safe.length * 24 ≤ 140737488351232) := ⟨h1, h2, h3⟩
  have H2 : Hid (s.names.length + s.safe.length ≤ 9223372036854775807) := by unfold Hid; omega
  clear hv ha h1 h2 h3
  have B0 : (w.alloc (.cells #[.int .i64 s.cap, .slice a0f s.files.length c0f, .slice a0n s.names.length c0n, .slice a0s s.safe.length c0s, .int .i64 s.next] 25)).heap[w.heap.size]? = some (.cells #[.int .i64 s.cap, .slice a0f s.files.length c0f, .slice a0n s.names.length c0n, .slice a0s s.safe.length c0s, .int .i64 s.next] 25) := blk_new _ _
  have U0 : Hid (Below w.heap.size w (w.alloc (.cells #[.int .i64 s.cap, .slice a0f s.files.length c0f, .slice a0n s.names.length c0n, .slice a0s s.safe.length c0s, .int .i64 s.next] 25))) := up_alloc _ _
  go_enter Try.func4, Try.ntmps4
  go_wp2_with fail
  generalize w.alloc (.cells #[.int .i64 s.cap, .slice a0f s.files.length c0f, .slice a0n s.names.length c0n, .slice a0s s.safe.length c0s, .int .i64 s.next] 25) = w0 at *
  refine (of_any s _ w0 (HV.out.up U0.out) H1.out.1 H1.out.2.1 H1.out.2.2).mono ?_
  rintro e w1 ⟨v1, rfl, ov, u⟩
  obtain ⟨a1f, c1f, a1n, c1n, a1s, c1s, rfl⟩ := (StW.own ov).form
  have O1 : Hid (OwnV w1 w0.heap.size (.agg #[.int .i64 s.cap, .slice a1f s.files.length c1f, .slice a1n s.names.length c1n, .slice a1s s.safe.length c1s, .int .i64 s.next]) s) := ov
  have B1 := blk_up (blk_up B0 u) (up_alloc w1 (.cells #[.int .i64 s.cap, .slice a1f s.files.length c1f, .slice a1n s.names.length c1n, .slice a1s s.safe.length c1s, .int .i64 s.next] 33))
  have X1 : (w1.alloc (.cells #[.int .i64 s.cap, .slice a1f s.files.length c1f, .slice a1n s.names.length c1n, .slice a1s s.safe.length c1s, .int .i64 s.next] 33)).heap[w1.heap.size]? = some (.cells #[.int .i64 s.cap, .slice a1f s.files.length c1f, .slice a1n s.names.length c1n, .slice a1s s.safe.length c1s, .int .i64 s.next] 33) := blk_new _ _
  have V1 : Hid (Below w1.heap.size w1 (w1.alloc (.cells #[.int .i64 s.cap, .slice a1f s.files.length c1f, .slice a1n s.names.length c1n, .slice a1s s.safe.length c1s, .int .i64 s.next] 33))) := up_alloc _ _
  have U1 : Hid (Below w.heap.size w (w1.alloc (.cells #[.int .i64 s.cap, .slice a1f s.files.length c1f, .slice a1n s.names.length c1n, .slice a1s s.safe.length c1s, .int .i64 s.next] 33))) := up_al (up_trans U0.out u) _
  clear ov u B0
  obtain ⟨p0, p1, p2, p3, p4⟩ := box_cells X1
  go_wp2_with fail
  generalize w1.alloc (.cells #[.int .i64 s.cap, .slice a1f s.files.length c1f, .slice a1n s.names.length c1n, .slice a1s s.safe.length c1s, .int .i64 s.next] 33) = w2 at *
  clear p0 p1 p2 p3 p4
  refine (run_any s l _ _ w2 ((StW.own O1.out).up V1.out) (HA.out.up U1.out) H2.out (fun hc k hk => check_sound (good_check (after_good (check_good hc) l k hk)))).mono ?_
  rintro e w3 ⟨v3, rfl, ov, u⟩
  obtain ⟨T, hT⟩ : ∃ T, T = runP s l := ⟨_, rfl⟩
  have HT : Hid (T = runP s l) := hT
  rw [← hT] at ov ⊢
  clear hT
  obtain ⟨t, n, ee⟩ := T
  simp only at ov
  obtain ⟨a3f, c3f, a3n, c3n, a3s, c3s, rfl⟩ := (StW.own ov).form
  have O3 : Hid (OwnV w3 w2.heap.size (.agg #[.int .i64 t.cap, .slice a3f t.files.length c3f, .slice a3n t.names.length c3n, .slice a3s t.safe.length c3s, .int .i64 t.next]) t) := ov
  have B2 := blk_up (blk_up B1 u) (up_alloc w3 (.cells #[.int .i64 t.cap, .slice a3f t.files.length c3f, .slice a3n t.names.length c3n, .slice a3s t.safe.length c3s, .int .i64 t.next] 33))
  have X2 := blk_up (blk_up X1 u) (up_alloc w3 (.cells #[.int .i64 t.cap, .slice a3f t.files.length c3f, .slice a3n t.names.length c3n, .slice a3s t.safe.length c3s, .int .i64 t.next] 33))
  have Y2 : (w3.alloc (.cells #[.int .i64 t.cap, .slice a3f t.files.length c3f, .slice a3n t.names.length c3n, .slice a3s t.safe.length c3s, .int .i64 t.next] 33)).heap[w3.heap.size]? = some (.cells #[.int .i64 t.cap, .slice a3f t.files.length c3f, .slice a3n t.names.length c3n, .slice a3s t.safe.length c3s, .int .i64 t.next] 33) := blk_new _ _
  have V3 : Hid (Below w3.heap.size w3 (w3.alloc (.cells #[.int .i64 t.cap, .slice a3f t.files.length c3f, .slice a3n t.names.length c3n, .slice a3s t.safe.length c3s, .int .i64 t.next] 33))) := up_alloc _ _
  have V13 : Hid (Below w1.heap.size w1 (w3.alloc (.cells #[.int .i64 t.cap, .slice a3f t.files.length c3f, .slice a3n t.names.length c3n, .slice a3s t.safe.length c3s, .int .i64 t.next] 33))) := up_al (up_trans V1.out u) _
  have U3 : Hid (Below w.heap.size w (w3.alloc (.cells #[.int .i64 t.cap, .slice a3f t.files.length c3f, .slice a3n t.names.length c3n, .slice a3s t.safe.length c3s, .int .i64 t.next] 33))) := up_al (up_trans U1.out u) _
  clear ov u B1 X1
  obtain ⟨p0, p1, p2, p3, p4⟩ := box_cells B2
  go_wp2_with fail
  generalize w3.alloc (.cells #[.int .i64 t.cap, .slice a3f t.files.length c3f, .slice a3n t.names.length c3n, .slice a3s t.safe.length c3s, .int .i64 t.next] 33) = w4 at *
  clear p0 p1 p2 p3 p4
  refine (refRun_any s l _ _ w4 (HV.out.up U3.out) (HA.out.up U3.out)).mono ?_
  rintro e w5 ⟨v5, rfl, ov, u⟩
  rw [← HT.out] at ov ⊢
  simp only at ov ⊢
  obtain ⟨a5f, c5f, a5n, c5n, a5s, c5s, rfl⟩ := (StW.ownU ov).form
  have O5 : Hid (OwnU w5 w4.heap.size (.agg #[.int .i64 t.cap, .slice a5f t.files.length c5f, .slice a5n t.names.length c5n, .slice a5s t.safe.length c5s, .int .i64 t.next]) t) := ov
  have B3 := blk_up (blk_up B2 u) (up_alloc w5 (.cells #[.int .i64 t.cap, .slice a5f t.files.length c5f, .slice a5n t.names.length c5n, .slice a5s t.safe.length c5s, .int .i64 t.next] 25))
  have X3 := blk_up (blk_up X2 u) (up_alloc w5 (.cells #[.int .i64 t.cap, .slice a5f t.files.length c5f, .slice a5n t.names.length c5n, .slice a5s t.safe.length c5s, .int .i64 t.next] 25))
  have Y3 := blk_up (blk_up Y2 u) (up_alloc w5 (.cells #[.int .i64 t.cap, .slice a5f t.files.length c5f, .slice a5n t.names.length c5n, .slice a5s t.safe.length c5s, .int .i64 t.next] 25))
  have Z3 : (w5.alloc (.cells #[.int .i64 t.cap, .slice a5f t.files.length c5f, .slice a5n t.names.length c5n, .slice a5s t.safe.length c5s, .int .i64 t.next] 25)).heap[w5.heap.size]? = some (.cells #[.int .i64 t.cap, .slice a5f t.files.length c5f, .slice a5n t.names.length c5n, .slice a5s t.safe.length c5s, .int .i64 t.next] 25) := blk_new _ _
  have V5 : Hid (Below w5.heap.size w5 (w5.alloc (.cells #[.int .i64 t.cap, .slice a5f t.files.length c5f, .slice a5n t.names.length c5n, .slice a5s t.safe.length c5s, .int .i64 t.next] 25))) := up_alloc _ _
  have V35 : Hid (Below w3.heap.size w3 (w5.alloc (.cells #[.int .i64 t.cap, .slice a5f t.files.length c5f, .slice a5n t.names.length c5n, .slice a5s t.safe.length c5s, .int .i64 t.next] 25))) := up_al (up_trans V3.out u) _
  have V15 : Hid (Below w1.heap.size w1 (w5.alloc (.cells #[.int .i64 t.cap, .slice a5f t.files.length c5f, .slice a5n t.names.length c5n, .slice a5s t.safe.length c5s, .int .i64 t.next] 25))) := up_al (up_trans V13.out u) _
  have U5 : Hid (Below w.heap.size w (w5.alloc (.cells #[.int .i64 t.cap, .slice a5f t.files.length c5f, .slice a5n t.names.length c5n, .slice a5s t.safe.length c5s, .int .i64 t.next] 25))) := up_al (up_trans U3.out u) _
  clear ov u B2 X2 Y2
  obtain ⟨p0, p1, p2, p3, p4⟩ := box_cells Y3
  obtain ⟨q0, q1, q2, q3, q4⟩ := box_cells Z3
  go_wp2_with fail
  generalize w5.alloc (.cells #[.int .i64 t.cap, .slice a5f t.files.length c5f, .slice a5n t.names.length c5n, .slice a5s t.safe.length c5s, .int .i64 t.next] 25) = w6 at *
  clear p0 p1 p2 p3 p4 q0 q1 q2 q3 q4
  refine (alike_self t _ _ w6 ((StW.own O3.out).up V35.out) ((StW.ownU O5.out).up V5.out)).mono ?_
  rintro e w7 ⟨rfl, u⟩
  have B4 := blk_up B3 u
  have X4 := blk_up X3 u
  have V17 : Hid (Below w1.heap.size w1 w7) := up_trans V15.out u
  have U7 : Hid (Below w.heap.size w w7) := up_trans U5.out u
  clear u B3 X3 Y3 Z3
  go_wp2_with fail
  refine (num_any ee _).mono ?_
  rintro e wz ⟨rfl, hwz⟩
  have hwz' : w7 = wz := hwz.symm
  clear hwz
  subst hwz'
  obtain ⟨p0, p1, p2, p3, p4⟩ := box_cells X4
  obtain ⟨q0, q1, q2, q3, q4⟩ := box_cells B4
  go_wp2_with fail
  refine (alike_self s _ _ w7 ((StW.own O1.out).up V17.out) (HV.out.up U7.out)).mono ?_
  rintro e w8 ⟨rfl, u⟩
  have U8 : Hid (Below w.heap.size w w8) := up_trans U7.out u
  clear u p0 p1 p2 p3 p4 q0 q1 q2 q3 q4 X4 B4
  go_wp2_with fail
  refine (alive_any w8).mono ?_
  rintro e w9 ⟨rfl, u⟩
  have U9 : Hid (Below w.heap.size w w9) := up_trans U8.out u
  clear u
  go_wp2_with fail
  go_ret
  exact ⟨rfl, U9.out⟩
end Go.Proofs.Ytoceddpjkodfkaa

/- The law FilesRuns holds: for every state and every slice of acts the Go function returns true, and what was handed in reads as before; no conditions. -/
namespace Go.Proofs.Ytoceddpjkodfkaa.filesRuns
open Go.ChangeShapes Go.WideShapes Go.ChangeAt Go.RowKit
open Go.ChangeMaps (open_string shut_string)
set_option linter.unusedVariables false

theorem own : ownKnob Try.prog.godebug = none := by kernel_rfl
theorem laidOut : laidOutB Try.prog = true := by kernel_rfl

set_option maxRecDepth 100000 in
theorem lifted (os : Os) (started : os.Started) (H : Type) (enc : TypeId × Value → H) :
    ReturnsInHanded {} Try.checked os 4 .any (Rows.filesRunsSpec.pre6 enc Try.prog Try.f4 Rows.filesRunsRow.domain false) (Rows.filesRunsSpec.post enc Try.prog Try.f4 false true false false) := by
  refine returnsInHanded_of_change_sized (C := Try.checked) own started (by kernel_rfl) Try.func4
    (ChangeSpec.witness6 (enc := enc) (C := Try.checked) false ⟨#[], #[.agg #[.int .i64 0, .slice none 0 0, .slice none 0 0, .slice none 0 0, .int .i64 0], .slice none 0 0], []⟩ 8 (by kernel_rfl) (by kernel_rfl) (by kernel_rfl) (by kernel_rfl)) ?_
  intro W base args ds gs before hval0 hW hcnd hsz0 _
  have hsz : (DataW.weightsEach Try.prog (Try.f4.params.toList ++ Rows.filesRunsSpec.plain.varTypes Try.prog) (ds ++ gs)).all (· ≤ reachBytes) = true := hsz0
  have hval : ∀ (j : Nat) t v, Try.f4.params[j]? = some t → args[j]? = some v → Value.okWide Try.prog W .any base t v := hval0
  have hW' := hW
  obtain ⟨p, q, hA0, hV, rfl, hfz, hnd⟩ := hW
  have hA : DataW.TrodAll enc Try.prog W 0 (fun _ => true) true Try.f4.params.toList args.toList ds p := hA0
  rw [Try.params4] at hA hval hsz
  obtain ⟨v0, vs0, d0, ds0, p0, q0, hargs, rfl, rfl, h0, r0⟩ := trodAll_cons hA
  obtain ⟨v1, vs1, d1, ds1, p1, q1, rfl, rfl, rfl, h1, r1⟩ := trodAll_cons r0
  obtain ⟨rfl, rfl, rfl⟩ := trodAll_nil r1
  obtain rfl : args = #[v0, v1] := by cases args; simp_all
  obtain ⟨rfl, rfl⟩ := trodVars_none hV
  have k0 := h0
  have lt0 : ∀ x ∈ p0, x.block < W.heap.size := by obtain ⟨m, hm⟩ := k0; exact DataW.trod_lt m _ _ _ hm
  obtain ⟨s0, w0, b0, c0, e0⟩ := arg_state (hval 0 25 v0 rfl rfl) h0 (fun m hm => by simpa using List.all_eq_true.1 hsz m (DataW.weights_mem_each (j := 0) (t := 25) rfl rfl m hm))
  have k1 := h1
  have lt1 : ∀ x ∈ p1, x.block < W.heap.size := by obtain ⟨m, hm⟩ := k1; exact DataW.trod_lt m _ _ _ hm
  obtain ⟨a1, len1, cap1, rfl⟩ := okWide_slice Try.underlying60 (hval 1 60 v1 rfl rfl)
  obtain ⟨l1, w1⟩ := arg_acts h1 (fun m hm => by simpa using List.all_eq_true.1 hsz m (DataW.weights_mem_each (j := 1) (t := 60) rfl rfl m hm))
  clear hA0 hval0
  refine (runs_walk s0 l1 _ _ W w0 w1 b0 c0 e0).mono fun e W' ⟨he, bel⟩ => ?_
  subst he
  exact ⟨_, rfl, _, _, _, [], _, [], hW', trodAll_mk1 (shut_bool Try.underlying4 _), (trodAll_cons_mk (Below.trod laidOut (by kernel_rfl) (of_decide_eq_true (by kernel_rfl)) k0 bel lt0) (trodAll_cons_mk (Below.trod laidOut (by kernel_rfl) (of_decide_eq_true (by kernel_rfl)) k1 bel lt1) trodAll_mk0)), rfl, bel.frame _, fun h => by cases h⟩

theorem over : Rows.filesRunsRow.holds Try.pinned (OpenSpec.ofChange Rows.filesRunsSpec) :=
  OpenClaim.holds_of_wide 4 Try.f4 rfl rfl rfl rfl rfl rfl rfl ⟨rfl, rfl, rfl, rfl, rfl⟩ rfl rfl rfl rfl rfl (by kernel_rfl) Try.func4 (by kernel_rfl)
    (of_decide_eq_true (by kernel_rfl)) (by unfold Func.isWrapper; first | (rw [if_pos (by decide +kernel)]; kernel_rfl) | (rw [if_neg (by decide +kernel)]; exact ⟨rfl, rfl⟩))
    (fun os started H enc _ => lifted os started H enc)
end Go.Proofs.Ytoceddpjkodfkaa.filesRuns

namespace Go.Proofs.Ytoceddpjkodfkaa
theorem filesRuns_holds : Rows.FilesRunsSaid := filesRuns.over
#print axioms filesRuns_holds
end Go.Proofs.Ytoceddpjkodfkaa
