/- The program's appendVersion of layer 9: a version's octets behind octets of one's own. -/
import Derived.Test.YtibjjhceiohmeaaYCom
import Derived.Test.YtibjjhceiohmeaaYMay
import Derived.Test.YtibjjhceiohmeaaXEnc2
namespace Go.Proofs.Ytibjjhceiohmeaa
open Go.RowKit SumPlain
set_option linter.unusedVariables false
set_option linter.unusedSimpArgs false

theorem grown_new {W W1 W2 : World} {r : Option Nat} {g : Nat} (h : W.grownBy W1 r) (h2 : W1.grownBy W2 (some g)) (hg : W.heap.size ≤ g) : W.grownBy W2 r := by
  obtain ⟨a1, a2, a3, a4, a5⟩ := h
  obtain ⟨b1, b2, b3, b4, b5⟩ := h2
  refine ⟨b1.trans a1, b2.trans a2, b3.trans a3, Nat.le_trans a4 b4, fun i hi hr => ?_⟩
  rw [b5 i (by omega) (by intro e; injection e with e; omega), a5 i hi hr]

/-- Octets of one's own that grow, with a version's box beside them. -/
structure ApS (W : World) (base : Nat) (v0 : Value) (N : Nat) (x : En) (v : Value) (L : List Int) (W' : World) : Prop where
  ob : OwnB W' base v L
  gr : W.grownBy W' v0.ownBlock
  pl : v.ownBlock = v0.ownBlock ∨ ∃ g, v.ownBlock = some g ∧ W.heap.size ≤ g
  bx : BoxN W' N x
  hb : base ≤ W'.heap.size
theorem ApS.up {W : World} {base : Nat} {v0 : Value} {N : Nat} {x : En} {v : Value} {L : List Int} {W' W2 : World} (h : ApS W base v0 N x v L W') (hb : Below W'.heap.size W' W2) : ApS W base v0 N x v L W2 :=
  ⟨own_up h.ob hb, grown_trans h.gr (grown_up hb _), h.pl, h.bx.up hb, Nat.le_trans h.hb hb.size⟩
theorem ApS.app {W : World} {base : Nat} {v0 : Value} {N : Nat} {x : En} {v v' : Value} {L L' : List Int} {W' W2 : World} (h : ApS W base v0 N x v L W') (ho : OwnB W2 base v' L') (hg : W'.grownBy W2 v.ownBlock) (ha : v'.ownBlock = v.ownBlock ∨ ∃ g, v'.ownBlock = some g ∧ W'.heap.size ≤ g) : ApS W base v0 N x v' L' W2 := by
  have hs : W.heap.size ≤ W'.heap.size := h.gr.size
  refine ⟨ho, ?_, ?_, ?_, Nat.le_trans h.hb hg.size⟩
  · rcases h.pl with q | ⟨g, q, hq⟩
    · rw [q] at hg; exact grown_trans h.gr hg
    · rw [q] at hg; exact grown_new h.gr hg hq
  · rcases ha with q | ⟨g, q, hq⟩
    · rw [q]; exact h.pl
    · exact .inr ⟨g, q, by omega⟩
  · exact blk_grown h.bx hg (fun e => by
      rcases own_blk_ne h.ob h.bx (by decide) with q | q
      · rw [q] at e; cases e
      · exact q e.symm)
theorem putO (n : Int) (h0 : 0 ≤ n) (h1 : n ≤ 18446744073709551615) (W : World) : Calls Try.prog 42 #[.int .u64 n] W fun e w' => ∃ a n' c, e = .returned (.slice a n' c) ∧ Hid (Octs w' (.slice a n' c) (octets n)) ∧ Hid (Below W.heap.size W w') := by
  refine (put_any n W h0 h1).mono ?_
  rintro e w' ⟨v, rfl, ho, hb⟩
  obtain ⟨a, n', c, rfl, _⟩ := own_shape ho
  exact ⟨a, n', c, rfl, Octs.put ho h0 h1, hb⟩

set_option maxHeartbeats 4000000 in
set_option maxRecDepth 100000 in
theorem appVer_any (x : En) (ahead : ByteArray) (base : Nat) (a : Option Addr) (n c : Nat) (L : List Int) (W : World) (ho : OwnB W base (.slice a n c) L) (hb : base ≤ W.heap.size) (hmx : mayE x = true) (hah : ahead.size ≤ 140737488355328) (hL : L.length ≤ 41280) :
    Calls Try.prog 25 #[.slice a n c, enV x, .string ahead] W fun e w' => ∃ a' n' c', e = .returned (.slice a' n' c') ∧ Hid (OwnB w' base (.slice a' n' c') (L ++ entO (comL (nums ahead) (nums x.key)) x)) ∧ Hid (W.grownBy w' (Value.slice a n c).ownBlock) ∧ Hid ((Value.slice a' n' c').ownBlock = (Value.slice a n c).ownBlock ∨ ∃ g, (Value.slice a' n' c').ownBlock = some g ∧ W.heap.size ≤ g) := by
  obtain ⟨mk1, mk2, ms1, ms2, md1, md2, mv1⟩ := mayE_le hmx
  have hks : x.key.size = (nums x.key).length := (nums_length _).symm
  have hvs : x.val.size = (nums x.val).length := (nums_length _).symm
  have HCM : Hid (∀ W : World, Calls Try.prog 41 #[.string x.key, .string ahead] W fun e w' => e = .returned (.int .i64 (comL (nums ahead) (nums x.key) : Nat)) ∧ ∃ d, w' = W.drewN d) := fun W => by
    have h := commonP_any x.key ahead (by omega) hah W
    rw [comL_symm] at h
    exact h
  have hle := (comL_le (nums ahead) (nums x.key)).2
  generalize comL (nums ahead) (nums x.key) = sN at *
  obtain ⟨rN, hrN⟩ : ∃ rN, rN = (nums x.key).length - sN := ⟨_, rfl⟩
  have HEQ : Hid (entO sN x = octets (sN : Int) ++ (octets (rN : Int) ++ (octets x.seq ++ (octets ((nums x.val).length : Int) ++ (x.kind :: ((nums x.key).drop sN ++ nums x.val)))))) := by unfold Hid entO; rw [hrN]
  have hsr : ((nums x.key).length : Int) - (sN : Int) = (rN : Int) := by omega
  have hwr : IntKind.i64.wrap (rN : Int) = (rN : Int) := by rw [IntKind.wrap_i64]; omega
  have A0 : Hid (ApS W base (.slice a n c) W.heap.size x (.slice a n c) L (W.alloc (enObj x))) := ⟨own_up ho (up_alloc _ _), grown_up (up_alloc _ _) _, .inl rfl, blk_new _ _, by have := (up_alloc W (enObj x)).size; omega⟩
  have CL : Hid (L.length ≤ 41280) := hL
  have hsn0 : (0 : Int) ≤ (sN : Int) ∧ (sN : Int) ≤ 18446744073709551615 := by omega
  have hrn0 : (0 : Int) ≤ (rN : Int) ∧ (rN : Int) ≤ 18446744073709551615 := by omega
  have HP0 := hid (putO (sN : Int) hsn0.1 hsn0.2)
  have HP1 := hid (putO (rN : Int) hrn0.1 hrn0.2)
  have HP2 := hid (putO x.seq (by omega) (by omega))
  have HP3 := hid (putO ((nums x.val).length : Int) (by omega) (by omega))
  have OL0 : Hid ((octets (sN : Int)).length ≤ 9) := (octets_len _ hsn0.1 hsn0.2).2
  have OL1 : Hid ((octets (rN : Int)).length ≤ 9) := (octets_len _ hrn0.1 hrn0.2).2
  have OL2 : Hid ((octets x.seq).length ≤ 9) := (octets_len _ (by omega) (by omega)).2
  have OL3 : Hid ((octets ((nums x.val).length : Int)).length ≤ 9) := (octets_len _ (by omega) (by omega)).2
  generalize octets (sN : Int) = O0 at *
  generalize octets (rN : Int) = O1 at *
  generalize octets x.seq = O2 at *
  generalize octets ((nums x.val).length : Int) = O3 at *
  clear hrN ho hL hah hsn0 hrn0
  unfold enV
  unfold enObj at A0
  go_enter Try.func25, Try.ntmps25
  go_wp2_with fail
  refine (HCM.out _).mono ?_
  rintro e w1 ⟨rfl, d, hw1⟩
  have A1 : Hid (ApS W base (.slice a n c) W.heap.size x (.slice a n c) L w1) := by rw [hw1]; exact A0.out.up (up_drewN _ d)
  clear hw1 A0 HCM
  generalize W.heap.size = N at *
  obtain ⟨z0, z1, z2, z3⟩ := A1.out.bx.cells
  go_wp2_with fail
  generalize hWA : w1.alloc (.cells #[.int .i64 (sN : Int), .int .i64 (rN : Int), .int .i64 x.seq, .int .i64 ((nums x.val).length : Int)] 70) = W2 at *
  have EA : Hid (ApS W base (.slice a n c) N x (.slice a n c) L W2) := by rw [← hWA]; exact A1.out.up (up_alloc _ _)
  clear hWA A1 z0 z1 z2 z3
  have ix0 := fun w => (idx70 (sN : Int) (rN : Int) x.seq ((nums x.val).length : Int) w).1
  have ix1 := fun w => (idx70 (sN : Int) (rN : Int) x.seq ((nums x.val).length : Int) w).2.1
  have ix2 := fun w => (idx70 (sN : Int) (rN : Int) x.seq ((nums x.val).length : Int) w).2.2.1
  have ix3 := fun w => (idx70 (sN : Int) (rN : Int) x.seq ((nums x.val).length : Int) w).2.2.2
  refine wp_loop_rounds 5 ?_
  rw [rounds_succ]
  go_wp2_with fail
  refine (HP0.out _).mono ?_
  rintro e p0 ⟨pa0, pn0, pc0, rfl, PO0, pb0⟩
  clear HP0
  have EP0 : Hid (ApS W base (.slice a n c) N x (.slice a n c) L p0) := EA.out.up pb0.out
  have HZ0 : Hid (L.length + O0.length ≤ 140737488355328) := by have := CL.out; have := OL0.out; unfold Hid; omega
  clear EA pb0
  go_wp2_with (at_builtin; refine wpList_append_octs_at p0 rfl _ _ rfl base (.slice a n c) L rfl EP0.out.ob (.slice pa0 pn0 pc0) O0 rfl PO0.out HZ0.out EP0.out.hb ?_)
  intro v0 W0' ho hg ha
  obtain ⟨ba0, bn0, bc0, rfl, _⟩ := own_shape ho
  obtain ⟨C0, hC0⟩ : ∃ C', C' = L ++ O0 := ⟨_, rfl⟩
  rw [← hC0] at ho
  have CE0 : Hid (C0 = L ++ O0) := hC0
  have CL0 : Hid (C0.length ≤ 41289) := by have := CL.out; have := OL0.out; unfold Hid; rw [hC0, List.length_append]; omega
  clear CL hC0
  have CL := CL0
  clear CL0
  have EA : Hid (ApS W base (.slice a n c) N x (.slice ba0 bn0 bc0) C0 W0') := EP0.out.app ho hg (ha.imp id fun h => ⟨_, h, Nat.le_refl _⟩)
  clear ho hg ha EP0 PO0 HZ0
  go_wp2_with fail
  rw [rounds_succ]
  go_wp2_with fail
  refine (HP1.out _).mono ?_
  rintro e p1 ⟨pa1, pn1, pc1, rfl, PO1, pb1⟩
  clear HP1
  have EP1 : Hid (ApS W base (.slice a n c) N x (.slice ba0 bn0 bc0) C0 p1) := EA.out.up pb1.out
  have HZ1 : Hid (C0.length + O1.length ≤ 140737488355328) := by have := CL.out; have := OL1.out; unfold Hid; omega
  clear EA pb1
  go_wp2_with (at_builtin; refine wpList_append_octs_at p1 rfl _ _ rfl base (.slice ba0 bn0 bc0) C0 rfl EP1.out.ob (.slice pa1 pn1 pc1) O1 rfl PO1.out HZ1.out EP1.out.hb ?_)
  intro v1 W1' ho hg ha
  obtain ⟨ba1, bn1, bc1, rfl, _⟩ := own_shape ho
  obtain ⟨C1, hC1⟩ : ∃ C', C' = C0 ++ O1 := ⟨_, rfl⟩
  rw [← hC1] at ho
  have CE1 : Hid (C1 = C0 ++ O1) := hC1
  have CL1 : Hid (C1.length ≤ 41298) := by have := CL.out; have := OL1.out; unfold Hid; rw [hC1, List.length_append]; omega
  clear CL hC1
  have CL := CL1
  clear CL1
  have EA : Hid (ApS W base (.slice a n c) N x (.slice ba1 bn1 bc1) C1 W1') := EP1.out.app ho hg (ha.imp id fun h => ⟨_, h, Nat.le_refl _⟩)
  clear ho hg ha EP1 PO1 HZ1
  go_wp2_with fail
  rw [rounds_succ]
  go_wp2_with fail
  refine (HP2.out _).mono ?_
  rintro e p2 ⟨pa2, pn2, pc2, rfl, PO2, pb2⟩
  clear HP2
  have EP2 : Hid (ApS W base (.slice a n c) N x (.slice ba1 bn1 bc1) C1 p2) := EA.out.up pb2.out
  have HZ2 : Hid (C1.length + O2.length ≤ 140737488355328) := by have := CL.out; have := OL2.out; unfold Hid; omega
  clear EA pb2
  go_wp2_with (at_builtin; refine wpList_append_octs_at p2 rfl _ _ rfl base (.slice ba1 bn1 bc1) C1 rfl EP2.out.ob (.slice pa2 pn2 pc2) O2 rfl PO2.out HZ2.out EP2.out.hb ?_)
  intro v2 W2' ho hg ha
  obtain ⟨ba2, bn2, bc2, rfl, _⟩ := own_shape ho
  obtain ⟨C2, hC2⟩ : ∃ C', C' = C1 ++ O2 := ⟨_, rfl⟩
  rw [← hC2] at ho
  have CE2 : Hid (C2 = C1 ++ O2) := hC2
  have CL2 : Hid (C2.length ≤ 41307) := by have := CL.out; have := OL2.out; unfold Hid; rw [hC2, List.length_append]; omega
  clear CL hC2
  have CL := CL2
  clear CL2
  have EA : Hid (ApS W base (.slice a n c) N x (.slice ba2 bn2 bc2) C2 W2') := EP2.out.app ho hg (ha.imp id fun h => ⟨_, h, Nat.le_refl _⟩)
  clear ho hg ha EP2 PO2 HZ2
  go_wp2_with fail
  rw [rounds_succ]
  go_wp2_with fail
  refine (HP3.out _).mono ?_
  rintro e p3 ⟨pa3, pn3, pc3, rfl, PO3, pb3⟩
  clear HP3
  have EP3 : Hid (ApS W base (.slice a n c) N x (.slice ba2 bn2 bc2) C2 p3) := EA.out.up pb3.out
  have HZ3 : Hid (C2.length + O3.length ≤ 140737488355328) := by have := CL.out; have := OL3.out; unfold Hid; omega
  clear EA pb3
  go_wp2_with (at_builtin; refine wpList_append_octs_at p3 rfl _ _ rfl base (.slice ba2 bn2 bc2) C2 rfl EP3.out.ob (.slice pa3 pn3 pc3) O3 rfl PO3.out HZ3.out EP3.out.hb ?_)
  intro v3 W3' ho hg ha
  obtain ⟨ba3, bn3, bc3, rfl, _⟩ := own_shape ho
  obtain ⟨C3, hC3⟩ : ∃ C', C' = C2 ++ O3 := ⟨_, rfl⟩
  rw [← hC3] at ho
  have CE3 : Hid (C3 = C2 ++ O3) := hC3
  have CL3 : Hid (C3.length ≤ 41316) := by have := CL.out; have := OL3.out; unfold Hid; rw [hC3, List.length_append]; omega
  clear CL hC3
  have CL := CL3
  clear CL3
  have EA : Hid (ApS W base (.slice a n c) N x (.slice ba3 bn3 bc3) C3 W3') := EP3.out.app ho hg (ha.imp id fun h => ⟨_, h, Nat.le_refl _⟩)
  clear ho hg ha EP3 PO3 HZ3
  go_wp2_with fail
  rw [rounds_succ]
  have y2 := EA.out.bx.cells.2.2.1
  have HZ4 : Hid (C3.length + [x.kind].length ≤ 140737488355328) := by have := CL.out; unfold Hid; simp; omega
  have HK4 : Hid (∀ y ∈ [x.kind], 0 ≤ y ∧ y ≤ 255) := by unfold Hid; simp; omega
  have hkm : x.kind % 256 = x.kind := by omega
  go_wp2_with (at_builtin; refine wpList_append_lits_at W3' rfl _ _ rfl base (.slice ba3 bn3 bc3) C3 rfl EA.out.ob [x.kind] 1 _ rfl rfl rfl HK4.out HZ4.out EA.out.hb ?_)
  intro v4 W4' ho hg ha
  obtain ⟨ba4, bn4, bc4, rfl, _⟩ := own_shape ho
  obtain ⟨C4, hC4⟩ : ∃ C', C' = C3 ++ [x.kind] := ⟨_, rfl⟩
  rw [← hC4] at ho
  have CE4 : Hid (C4 = C3 ++ [x.kind]) := hC4
  have CL4 : Hid (C4.length ≤ 41317) := by have := CL.out; unfold Hid; rw [hC4, List.length_append]; simp only [List.length_cons, List.length_nil]; omega
  clear CL hC4
  have EB : Hid (ApS W base (.slice a n c) N x (.slice ba4 bn4 bc4) C4 W4') := EA.out.app ho hg ha
  clear ho hg ha EA y2 HZ4 HK4 hkm
  have y0 := EB.out.bx.cells.1
  have KXE : Hid (nums (x.key.extract sN (nums x.key).length) = (nums x.key).drop sN) := nums_cut x.key sN
  have KXL : Hid ((x.key.extract sN (nums x.key).length).size ≤ 96) := by unfold Hid; rw [← nums_length, KXE.out, List.length_drop]; omega
  have HZ5 : Hid (C4.length + (x.key.extract sN (nums x.key).length).size ≤ 140737488355328) := by have := CL4.out; have := KXL.out; unfold Hid; omega
  go_wp2_with (at_builtin; refine wpList_append_str_at W4' rfl _ _ rfl base (.slice ba4 bn4 bc4) C4 rfl EB.out.ob (x.key.extract sN (nums x.key).length) rfl HZ5.out EB.out.hb ?_)
  intro v5 W5' ho hg ha
  rw [KXE.out] at ho
  obtain ⟨ba5, bn5, bc5, rfl, _⟩ := own_shape ho
  obtain ⟨C5, hC5⟩ : ∃ C', C' = C4 ++ (nums x.key).drop sN := ⟨_, rfl⟩
  rw [← hC5] at ho
  have CE5 : Hid (C5 = C4 ++ (nums x.key).drop sN) := hC5
  have CL5 : Hid (C5.length ≤ 41413) := by have := CL4.out; unfold Hid; rw [hC5, List.length_append]; rw [List.length_drop]; omega
  clear CL4 hC5
  have EC : Hid (ApS W base (.slice a n c) N x (.slice ba5 bn5 bc5) C5 W5') := EB.out.app ho hg ha
  clear ho hg ha EB y0 HZ5
  have y3 := EC.out.bx.cells.2.2.2
  have HZ6 : Hid (C5.length + x.val.size ≤ 140737488355328) := by have := CL5.out; unfold Hid; omega
  go_wp2_with (at_builtin; refine wpList_append_str_at W5' rfl _ _ rfl base (.slice ba5 bn5 bc5) C5 rfl EC.out.ob x.val rfl HZ6.out EC.out.hb ?_)
  intro v6 W6' ho hg ha
  obtain ⟨ba6, bn6, bc6, rfl, _⟩ := own_shape ho
  have ED : Hid (ApS W base (.slice a n c) N x (.slice ba6 bn6 bc6) (C5 ++ nums x.val) W6') := EC.out.app ho hg ha
  have HF : Hid (C5 ++ nums x.val = L ++ entO sN x) := by
    unfold Hid
    rw [HEQ.out, CE5.out, CE4.out, CE3.out, CE2.out, CE1.out, CE0.out]
    simp only [List.append_assoc, List.cons_append, List.nil_append]
  clear ho hg ha EC y3 HZ6
  go_wp2_with fail
  go_ret
  refine ⟨ba6, bn6, bc6, rfl, ?_, ED.out.gr, ?_⟩
  · rw [← HF.out]; exact ED.out.ob
  · have := ED.out.pl
    exact this
end Go.Proofs.Ytibjjhceiohmeaa
